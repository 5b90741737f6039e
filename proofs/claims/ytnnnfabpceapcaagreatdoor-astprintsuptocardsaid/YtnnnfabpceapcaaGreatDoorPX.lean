/- The document's text: its buffer, and what is put into it. -/
import Derived.Test.YtnnnfabpceapcaaGreatDoorRLaw
import Derived.Lib.AppendStr
import Derived.Deep.RegionLaw
namespace Go.Proofs.YtnnnfabpceapcaaGreatDoor
set_option linter.unusedSimpArgs false
open Go.RowKit
set_option linter.unusedVariables false
set_option linter.unusedSimpArgs false

theorem Kept.mono' {S T : Nat → Prop} {w w' : World} (h : Kept S w w') (hs : ∀ k, k < w.heap.size → S k → T k) : Kept T w w' :=
  ⟨h.os, h.tape, h.output, h.size, fun k hk hn => h.block k hk (fun e => hn (hs k hk e))⟩
theorem Kept.ahead' {S T : Nat → Prop} {a b c : World} (h : Kept S a b) (k : Kept T b c) (hs : ∀ i, i < a.heap.size → T i → S i) : Kept S a c :=
  ⟨k.os.trans h.os, k.tape.trans h.tape, k.output.trans h.output, Nat.le_trans h.size k.size, fun i hi hn => (k.block i (Nat.lt_of_lt_of_le hi h.size) (fun e => hn (hs i hi e))).trans (h.block i hi hn)⟩
theorem Kept.below' {S : Nat → Prop} {B : Nat} {w w' : World} (h : Kept S w w') (hB : B ≤ w.heap.size) (hs : ∀ k, S k → B ≤ k) : Below B w w' :=
  ⟨h.os, h.tape, h.output, h.size, fun k hk => h.block k (by omega) (fun e => by have := hs k e; omega)⟩
theorem Kept.owns' {S : Nat → Prop} {w w' : World} (h : Kept S w w') {base : Nat} {e : TypeId} {size : Nat} {v : Value} {n : Nat} {xs : List Value} (ho : w.ownsRow base e size v n xs) (hn : ∀ b, v.ownBlock = some b → ¬ S b) : w'.ownsRow base e size v n xs := by
  obtain ⟨hl, h'⟩ := ho
  refine ⟨hl, ?_⟩
  rcases h' with h' | ⟨g, cap, cur, hv, hg, hb, hr⟩
  · exact .inl h'
  · have hgl : g < w.heap.size := (Array.getElem?_eq_some_iff.1 hb).1
    exact .inr ⟨g, cap, cur, hv, hg, (h.block g hgl (hn g (by rw [hv]; exact Eq.refl _))).trans hb, hr⟩

/-- What the text's calls may turn: its struct, rows of bytes. -/
def ST (B : Nat) (w : World) (k : Nat) : Prop := B ≤ k ∧ ((∃ cs f, w.heap[k]? = some (.cells cs 45 f)) ∨ (∃ cs f, w.heap[k]? = some (.cells cs 5 f)))
def KT (B : Nat) (w w' : World) : Prop := Kept (ST B w) w w'
theorem KT.rfl (B : Nat) (w : World) : KT B w w := Kept.rfl _ _
theorem KT.trans {B : Nat} {a b c : World} (h : KT B a b) (k : KT B b c) : KT B a c := by
  refine Kept.ahead' h k (fun i hi hs => Classical.byContradiction fun hn => hn ?_)
  have e := h.block i hi hn
  unfold ST at *
  rw [e] at hs
  exact hs
theorem KT.of_below {B : Nat} {w w' : World} (h : Below w.heap.size w w') : KT B w w' := Kept.of_below h
theorem KT.below {B : Nat} {w w' : World} (h : KT B w w') (hB : B ≤ w.heap.size) : Below B w w' := Kept.below' h hB (fun _ hk => hk.1)
/-- A node's box stays. -/
theorem KT.box {B b : Nat} {w w' : World} {cs : Array Value} {f : Nat × Nat} (h : KT B w w') (hb : w.heap[b]? = some (.cells cs 25 f)) : w'.heap[b]? = some (.cells cs 25 f) := by
  refine (h.block b (Array.getElem?_eq_some_iff.1 hb).1 ?_).trans hb
  rintro ⟨_, ⟨_, _, e⟩ | ⟨_, _, e⟩⟩ <;> (rw [hb] at e; cases e)
theorem box_cells {b : Nat} {w : World} {v0 v1 v2 v3 v4 v5 : Value} {f : Nat × Nat} (h : w.heap[b]? = some (.cells #[v0, v1, v2, v3, v4, v5] 25 f)) :
    w.cell? ⟨b, 0, none⟩ = some v0 ∧ w.cell? ⟨b, 1, none⟩ = some v1 ∧ w.cell? ⟨b, 2, none⟩ = some v2 ∧ w.cell? ⟨b, 3, none⟩ = some v3 ∧ w.cell? ⟨b, 4, none⟩ = some v4 ∧ w.cell? ⟨b, 5, none⟩ = some v5 := by
  refine ⟨?_, ?_, ?_, ?_, ?_, ?_⟩ <;> simp [World.cell?, h]

/-- The buffer holds a text, or has gone past the limit. -/
def Buf (W : World) (B tb : Nat) (F : List UInt8) : Prop :=
  ∃ (v : Value) (b : List UInt8), W.heap[tb]? = some (.cells #[v] 45 (0, 0)) ∧ W.ownsRow B 5 1 v b.length (vals b) ∧ B ≤ tb ∧ b.length ≤ 120000000 ∧ (b = F ∨ (1048576 < b.length ∧ b <+: F))
theorem Buf.keep {S : Nat → Prop} {W W' : World} {B tb : Nat} {F : List UInt8} (h : Buf W B tb F) (hk : Kept S W W') (hs : ∀ k, ST B W k → ¬ S k) : Buf W' B tb F := by
  obtain ⟨v, b, h1, h2, h3, h4, h5⟩ := h
  refine ⟨v, b, (hk.block tb (Array.getElem?_eq_some_iff.1 h1).1 (hs tb ⟨h3, .inl ⟨_, _, h1⟩⟩)).trans h1, hk.owns' h2 (fun k hk' => hs k ?_), h3, h4, h5⟩
  rcases h2.2 with ⟨e, _⟩ | ⟨g, cap, cur, e, hb, hh, _⟩
  · subst e; simp [Value.ownBlock] at hk'
  · subst e
    simp [Value.ownBlock] at hk'
    subst hk'
    exact ⟨hb, .inr ⟨_, _, hh⟩⟩
theorem Buf.below {W W' : World} {B tb : Nat} {F : List UInt8} (h : Buf W B tb F) (hk : Below W.heap.size W W') : Buf W' B tb F := h.keep (S := fun _ => False) (Kept.of_below hk) (fun _ _ e => e)

/-- In the midst of printing. -/
structure Pt (w0 : World) (tb : Nat) (F : List UInt8) (W : World) : Prop where
  buf : Buf W w0.heap.size tb F
  bel : Below w0.heap.size w0 W
theorem Pt.below {w0 W W' : World} {tb : Nat} {F : List UInt8} (h : Pt w0 tb F W) (hk : Below W.heap.size W W') : Pt w0 tb F W' := ⟨h.buf.below hk, below_on h.bel hk⟩
theorem Pt.box {w0 W : World} {tb : Nat} {F : List UInt8} (h : Pt w0 tb F W) (o : Obj) : Pt w0 tb F (W.alloc o) := h.below (below1 _ _)
theorem Pt.cast {w0 W : World} {tb : Nat} {F G : List UInt8} (h : Pt w0 tb F W) (e : F = G) : Pt w0 tb G W := e ▸ h
/-- What a call that puts a text leaves. -/
def Puts (w0 : World) (tb : Nat) (F L : List UInt8) (W : World) (e : Ending) (w' : World) : Prop := e = .returned (.tuple #[]) ∧ Pt w0 tb (F ++ L) w' ∧ KT w0.heap.size W w'

theorem vals_len (l : List UInt8) : (vals l).length = l.length := by simp [vals]
theorem own_form {W : World} {base n size : Nat} {e : TypeId} {v : Value} {xs : List Value} (h : W.ownsRow base e size v n xs) : ∃ ao cap, v = .slice ao n cap := by
  rcases h.2 with ⟨e, h0⟩ | ⟨k, c, cur, e, _⟩
  · subst h0; exact ⟨_, _, e⟩
  · exact ⟨_, _, e⟩
theorem info5p : (Tryz.prog.info? 5).map (fun i => (i.zero, i.size, i.bytes)) = some (some (.int .u8 0), 1, 1) := by kernel_rfl

theorem Buf.pushed {W : World} {B tb : Nat} {v : Value} {b F : List UInt8} (h1 : W.heap[tb]? = some (.cells #[v] 45 (0, 0))) (h2 : W.ownsRow B 5 1 v b.length (vals b)) (h3 : B ≤ tb) (h4 : b.length ≤ 1048576) (h5 : b = F) (s : ByteArray) (hs : s.size ≤ 100000000) :
    ∃ ao cap w', (Builtin.append_ #[43, 9] 43 #[v, .string s]).run Tryz.prog W = .ok (.slice ao (b.length + s.size) cap) w' ∧ w'.cell? ⟨tb, 0, none⟩ = some v ∧ w'.frozen? ⟨tb, 0, none⟩ = false ∧
      Buf (w'.setCell ⟨tb, 0, none⟩ (.slice ao (b.length + s.size) cap)) B tb (F ++ lst s) ∧ KT B W (w'.setCell ⟨tb, 0, none⟩ (.slice ao (b.length + s.size) cap)) := by
  obtain ⟨i, hi, hz, h1s, hb⟩ := info_parts info5p
  have htl := (Array.getElem?_eq_some_iff.1 h1).1
  obtain ⟨v', w', hr, ho, hg, _⟩ := Lib.run_append_own_string (P := Tryz.prog) W B 43 9 43 5 i Tryz.underlying43 Tryz.underlying9 hi hz h1s hb v b.length (vals b) h2 s (by unfold maxLen; omega) (by omega) (by omega)
  have hown : ∀ k, v.ownBlock = some k → B ≤ k ∧ ∃ cs f, W.heap[k]? = some (.cells cs 5 f) := fun k hk => by
    rcases h2.2 with ⟨e', _⟩ | ⟨g, c, cur, e', hb', hh, _⟩
    · subst e'; simp [Value.ownBlock] at hk
    · subst e'
      simp [Value.ownBlock] at hk
      subst hk
      exact ⟨hb', _, _, hh⟩
  have nq : ∀ k, v.ownBlock = some k → k ≠ tb := fun k hk e' => by
    obtain ⟨_, cs, f, hh⟩ := hown k hk
    rw [e', h1] at hh
    cases hh
  have k2 : Kept (fun k => v.ownBlock = some k) W w' := ⟨hg.os, hg.tape, hg.output, hg.size, fun k hk hn => hg.block k hk (fun e => hn e.symm)⟩
  have hq2 := (k2.block tb htl (fun e' => nq tb e' rfl)).trans h1
  obtain ⟨ao, cap, rfl⟩ := own_form ho
  have hv : vals b ++ Lib.strCells s = vals (b ++ lst s) := by
    unfold vals lst
    rw [List.map_append]
    rfl
  rw [hv] at ho
  have hlen : (b ++ lst s).length = b.length + s.size := by rw [List.length_append, lst_len]
  refine ⟨ao, cap, w', hr, by simp [World.cell?, hq2], by simp [World.frozen?, hq2], ⟨.slice ao (b.length + s.size) cap, b ++ lst s, ?_, ?_, h3, by rw [hlen]; omega, .inl (by rw [h5])⟩, ?_⟩
  · have hl := (Array.getElem?_eq_some_iff.1 hq2).1
    rw [Array.getElem?_eq_some_iff] at hq2
    obtain ⟨_, hh⟩ := hq2
    simp [World.setCell, hl, hh, Array.getElem_modify]
  · have k3 : Kept (fun k => k = tb) w' (w'.setCell ⟨tb, 0, none⟩ (.slice ao (b.length + s.size) cap)) := (Kept.rfl (fun k => k = tb) w').setC (fun _ => rfl) _
    rw [hlen]
    refine k3.owns' ho (fun k hk e' => ?_)
    subst e'
    rcases ho.2 with ⟨e', _⟩ | ⟨g, c, cur, e', hb', hh, _⟩
    · rw [e'] at hk; simp [Value.ownBlock] at hk
    · rw [e'] at hk
      simp [Value.ownBlock] at hk
      subst hk
      rw [hq2] at hh
      cases hh
  · have k4 := (k2.mono' (T := fun k => v.ownBlock = some k ∨ k = tb) (fun k _ e => .inl e)).setC (b := tb) (o := 0) (fun _ => .inr rfl) (.slice ao (b.length + s.size) cap)
    refine k4.mono' (fun k _ e' => ?_)
    rcases e' with e' | rfl
    · obtain ⟨h1', h2'⟩ := hown k e'
      exact ⟨h1', .inr h2'⟩
    · exact ⟨h3, .inl ⟨_, _, h1⟩⟩

/-- append, by what its run is. -/
theorem wpList_append_str {t u : TypeId} {w w' : World} {ops : Array Oper} {rest : List Oper} {o : Oper} {a : Act} {Q : Exit → Act → World → Prop} (hgd : o.guard = none) (s x : Operand) (ho : o.op = .call { callee := .builtin .append, args := #[s, x], argTypes := #[t, u] })
    (v xv v' : Value) (hs : a.eval s = v) (hx : a.eval x = xv) (hr : (Builtin.append_ #[t, u] o.type #[v, xv]).run Tryz.prog w = .ok v' w') (h : wpList Tryz.prog ops Q rest (a.put o.dst v') w') : wpList Tryz.prog ops Q (o :: rest) a w := by
  refine wpList_plain hgd fun K hK => ?_
  unfold Oper.wp execOp
  simp only [ho, resolve, invoke, builtin, Sem.run_bind, Sem.run_pure, Result.andThen_ok, List.map_toArray, List.map_cons, List.map_nil, hs, hx, hr]
  exact hK _ _ h

set_option maxHeartbeats 1000000 in
set_option maxRecDepth 20000 in
theorem put59 {w0 W : World} {tb : Nat} {F : List UInt8} (h : Pt w0 tb F W) (s : ByteArray) (hs : s.size ≤ 100000000) :
    Calls Tryz.prog 59 #[.pointer (some ⟨tb, 0, none⟩), .string s] W (Puts w0 tb F (lst s) W) := by
  obtain ⟨⟨v, b, h1, h2, h3, h4, h5⟩, hbel⟩ := h
  obtain ⟨ao0, cap0, rfl⟩ := own_form h2
  have hc : W.cell? ⟨tb, 0, none⟩ = some (.slice ao0 b.length cap0) := by simp [World.cell?, h1]
  by_cases hl : b.length ≤ 1048576
  · have hF : b = F := by rcases h5 with h5 | h5; exact h5; omega
    obtain ⟨ao, cap, w', hr, hc', hf', hB, hK⟩ := Buf.pushed h1 h2 h3 hl hF s hs
    have HB : Hid (Pt w0 tb (F ++ lst s) (w'.setCell ⟨tb, 0, none⟩ (.slice ao (b.length + s.size) cap)) ∧ KT w0.heap.size W (w'.setCell ⟨tb, 0, none⟩ (.slice ao (b.length + s.size) cap))) := ⟨⟨hB, hbel.trans (KT.below hK hbel.size)⟩, hK⟩
    have hd : decide ((b.length : Int) ≤ 1048576) = true := decide_eq_true (by omega)
    clear hB hK h1 h2 h3 h5 hF hbel
    go_enter Tryz.func59, Tryz.ntmps59
    go_wp2_with (at_builtin; refine wpList_append_str rfl _ _ rfl _ _ _ rfl rfl hr ?_)
    go_end0
    exact ⟨rfl, HB.out⟩
  · have HP : Hid (Pt w0 tb (F ++ lst s) W) := by
      refine ⟨⟨_, b, h1, h2, h3, h4, .inr ⟨by omega, ?_⟩⟩, hbel⟩
      rcases h5 with h5 | h5
      · rw [h5]; exact List.prefix_append _ _
      · exact h5.2.trans (List.prefix_append _ _)
    have hd : decide ((b.length : Int) ≤ 1048576) = false := decide_eq_false (by omega)
    clear h1 h2 h3 h5 hbel
    go_enter Tryz.func59, Tryz.ntmps59
    go_wp2
    go_end0
    exact ⟨rfl, HP.out, KT.rfl _ _⟩
end Go.Proofs.YtnnnfabpceapcaaGreatDoor

namespace Go.Proofs.YtnnnfabpceapcaaGreatDoor
set_option linter.unusedSimpArgs false
open Go.RowKit
set_option linter.unusedVariables false
set_option linter.unusedSimpArgs false

def opF (s : ByteArray) : Int :=
  if s.toList == [124, 124] then 2 else if s.toList == [38, 38] then 3 else if s.toList == [124] then 4 else if s.toList == [94] then 5 else if s.toList == [38] then 6 else if s.toList == [61, 61] then 7 else if s.toList == [33, 61] then 7 else if s.toList == [60] then 8 else if s.toList == [62] then 8 else if s.toList == [60, 61] then 8 else if s.toList == [62, 61] then 8 else if s.toList == [60, 60] then 9 else if s.toList == [62, 62] then 9 else if s.toList == [43] then 10 else if s.toList == [45] then 10 else 11
set_option maxHeartbeats 4000000 in
theorem operator111 (s : ByteArray) (w : World) : Calls Tryz.prog 111 #[.string s] w fun e w' => e = .returned (.int .i64 (opF s)) ∧ w' = w := by
  unfold opF
  go_enter Tryz.func111, Tryz.ntmps111
  cases h0 : s.toList == [124, 124] with
  | true =>
    go_wp2
    go_ret
    exact ⟨rfl, rfl⟩
  | false =>
  cases h1 : s.toList == [38, 38] with
  | true =>
    go_wp2
    go_ret
    exact ⟨rfl, rfl⟩
  | false =>
  cases h2 : s.toList == [124] with
  | true =>
    go_wp2
    go_ret
    exact ⟨rfl, rfl⟩
  | false =>
  cases h3 : s.toList == [94] with
  | true =>
    go_wp2
    go_ret
    exact ⟨rfl, rfl⟩
  | false =>
  cases h4 : s.toList == [38] with
  | true =>
    go_wp2
    go_ret
    exact ⟨rfl, rfl⟩
  | false =>
  cases h5 : s.toList == [61, 61] with
  | true =>
    go_wp2
    go_ret
    exact ⟨rfl, rfl⟩
  | false =>
  cases h6 : s.toList == [33, 61] with
  | true =>
    go_wp2
    go_ret
    exact ⟨rfl, rfl⟩
  | false =>
  cases h7 : s.toList == [60] with
  | true =>
    go_wp2
    go_ret
    exact ⟨rfl, rfl⟩
  | false =>
  cases h8 : s.toList == [62] with
  | true =>
    go_wp2
    go_ret
    exact ⟨rfl, rfl⟩
  | false =>
  cases h9 : s.toList == [60, 61] with
  | true =>
    go_wp2
    go_ret
    exact ⟨rfl, rfl⟩
  | false =>
  cases h10 : s.toList == [62, 61] with
  | true =>
    go_wp2
    go_ret
    exact ⟨rfl, rfl⟩
  | false =>
  cases h11 : s.toList == [60, 60] with
  | true =>
    go_wp2
    go_ret
    exact ⟨rfl, rfl⟩
  | false =>
  cases h12 : s.toList == [62, 62] with
  | true =>
    go_wp2
    go_ret
    exact ⟨rfl, rfl⟩
  | false =>
  cases h13 : s.toList == [43] with
  | true =>
    go_wp2
    go_ret
    exact ⟨rfl, rfl⟩
  | false =>
  cases h14 : s.toList == [45] with
  | true =>
    go_wp2
    go_ret
    exact ⟨rfl, rfl⟩
  | false =>
  go_wp2
  go_ret
  exact ⟨rfl, rfl⟩
theorem op_log {s : ByteArray} (h : (logF s != 0) = true) : opF s = logF s := by
  unfold logF at *
  unfold opF
  by_cases h1 : (s.toList == [124, 124]) = true
  · rw [if_pos h1, if_pos h1]
  · rw [if_neg h1] at h ⊢
    by_cases h2 : (s.toList == [38, 38]) = true
    · rw [if_neg h1, if_pos h2, if_pos h2]
    · rw [if_neg h2] at h
      exact absurd h (by decide)
theorem op_bin {s : ByteArray} (h : (binF s != 0) = true) : opF s = binF s := by
  unfold binF at *
  unfold opF
  by_cases h0 : s.toList = [124]
  · rw [h0]
    rfl
  by_cases h1 : s.toList = [94]
  · rw [h1]
    rfl
  by_cases h2 : s.toList = [38]
  · rw [h2]
    rfl
  by_cases h3 : s.toList = [61, 61]
  · rw [h3]
    rfl
  by_cases h4 : s.toList = [33, 61]
  · rw [h4]
    rfl
  by_cases h5 : s.toList = [60]
  · rw [h5]
    rfl
  by_cases h6 : s.toList = [62]
  · rw [h6]
    rfl
  by_cases h7 : s.toList = [60, 61]
  · rw [h7]
    rfl
  by_cases h8 : s.toList = [62, 61]
  · rw [h8]
    rfl
  by_cases h9 : s.toList = [60, 60]
  · rw [h9]
    rfl
  by_cases h10 : s.toList = [62, 62]
  · rw [h10]
    rfl
  by_cases h11 : s.toList = [43]
  · rw [h11]
    rfl
  by_cases h12 : s.toList = [45]
  · rw [h12]
    rfl
  by_cases h13 : s.toList = [42]
  · rw [h13]
    rfl
  by_cases h14 : s.toList = [47]
  · rw [h14]
    rfl
  by_cases h15 : s.toList = [37]
  · rw [h15]
    rfl
  simp [h0, h1, h2, h3, h4, h5, h6, h7, h8, h9, h10, h11, h12, h13, h14, h15] at h

/-- A good node. -/
def gN (x : NdH) (ks : List Tr) : Bool := mayN x ks && (typedN x ks && decide (x.str.size ≤ 1048576))
theorem gN_may {x : NdH} {ks : List Tr} (h : gN x ks = true) : mayN x ks = true := by unfold gN at h; rw [Bool.and_eq_true] at h; exact h.1
theorem gN_typed {x : NdH} {ks : List Tr} (h : gN x ks = true) : typedN x ks = true := by unfold gN at h; simp only [Bool.and_eq_true] at h; exact h.2.1
theorem gN_str {x : NdH} {ks : List Tr} (h : gN x ks = true) : x.str.size ≤ 1048576 := by unfold gN at h; simp only [Bool.and_eq_true, decide_eq_true_eq] at h; exact h.2.2
theorem lvl_op {x : NdH} {ks : List Tr} (h : mayN x ks = true) (hk : x.kind = 10 ∨ x.kind = 11) : opF x.str = lvl x := by
  have hs : strF nameB typeB signF asgF binF logF x = true := by rw [mayN_eq, Bool.and_eq_true] at h; exact h.1
  obtain ⟨kind, str, num, flag, pos⟩ := x
  dsimp only at *
  rcases hk with rfl | rfl
  · exact op_bin hs
  · exact op_log hs

set_option maxHeartbeats 4000000 in
theorem level93 {x : NdH} {ks : List Tr} {ka : Option Addr} {kn kc : Nat} (h : mayN x ks = true) (w : World) :
    Calls Tryz.prog 93 #[ndV x (.slice ka kn kc)] w fun e w' => e = .returned (.int .i64 (lvl x)) ∧ Below w.heap.size w w' := by
  have HO : Hid (x.kind = 10 ∨ x.kind = 11 → opF x.str = lvl x) := fun hk => lvl_op h hk
  have h111 : Hid (∀ W, Calls Tryz.prog 111 #[.string x.str] W fun e w' => e = .returned (.int .i64 (opF x.str)) ∧ w' = W) := fun W => operator111 x.str W
  have HL : Hid (lvl x = if x.kind = 13 then 0 else if x.kind = 12 then 1 else if x.kind = 11 then logF x.str else if x.kind = 10 then binF x.str else if x.kind = 9 ∨ x.kind = 14 ∨ x.kind = 15 then 12 else 13) := rfl
  clear h
  generalize lvl x = l at *
  generalize opF x.str = o at *
  obtain ⟨kind, str, num, flag, pos⟩ := x
  unfold ndV
  dsimp only at *
  by_cases k13 : kind = 13
  · subst k13
    have HV : Hid (l = 0) := HL.out
    clear HL HO
    go_enter Tryz.func93, Tryz.ntmps93
    go_wp2_with (go_at_call 111; (with_reducible refine (h111.out _).mono ?_); rintro e w1 ⟨rfl, hw⟩; have hv := hw.symm; clear hw; subst hv)
    go_ret
    exact ⟨by rw [HV.out]; rfl, below1 _ _⟩
  by_cases k12 : kind = 12
  · subst k12
    have HV : Hid (l = 1) := HL.out
    clear HL HO
    go_enter Tryz.func93, Tryz.ntmps93
    go_wp2_with (go_at_call 111; (with_reducible refine (h111.out _).mono ?_); rintro e w1 ⟨rfl, hw⟩; have hv := hw.symm; clear hw; subst hv)
    go_ret
    exact ⟨by rw [HV.out]; rfl, below1 _ _⟩
  by_cases k10 : kind = 10
  · subst k10
    have HV : Hid (l = o) := (HO.out (by omega)).symm
    clear HL HO
    go_enter Tryz.func93, Tryz.ntmps93
    go_wp2_with (go_at_call 111; (with_reducible refine (h111.out _).mono ?_); rintro e w1 ⟨rfl, hw⟩; have hv := hw.symm; clear hw; subst hv)
    go_ret
    exact ⟨by rw [HV.out]; rfl, below1 _ _⟩
  by_cases k11 : kind = 11
  · subst k11
    have HV : Hid (l = o) := (HO.out (by omega)).symm
    clear HL HO
    go_enter Tryz.func93, Tryz.ntmps93
    go_wp2_with (go_at_call 111; (with_reducible refine (h111.out _).mono ?_); rintro e w1 ⟨rfl, hw⟩; have hv := hw.symm; clear hw; subst hv)
    go_ret
    exact ⟨by rw [HV.out]; rfl, below1 _ _⟩
  by_cases k9 : kind = 9
  · subst k9
    have HV : Hid (l = 12) := HL.out
    clear HL HO
    go_enter Tryz.func93, Tryz.ntmps93
    go_wp2_with (go_at_call 111; (with_reducible refine (h111.out _).mono ?_); rintro e w1 ⟨rfl, hw⟩; have hv := hw.symm; clear hw; subst hv)
    go_ret
    exact ⟨by rw [HV.out]; rfl, below1 _ _⟩
  by_cases k14 : kind = 14
  · subst k14
    have HV : Hid (l = 12) := HL.out
    clear HL HO
    go_enter Tryz.func93, Tryz.ntmps93
    go_wp2_with (go_at_call 111; (with_reducible refine (h111.out _).mono ?_); rintro e w1 ⟨rfl, hw⟩; have hv := hw.symm; clear hw; subst hv)
    go_ret
    exact ⟨by rw [HV.out]; rfl, below1 _ _⟩
  by_cases k15 : kind = 15
  · subst k15
    have HV : Hid (l = 12) := HL.out
    clear HL HO
    go_enter Tryz.func93, Tryz.ntmps93
    go_wp2_with (go_at_call 111; (with_reducible refine (h111.out _).mono ?_); rintro e w1 ⟨rfl, hw⟩; have hv := hw.symm; clear hw; subst hv)
    go_ret
    exact ⟨by rw [HV.out]; rfl, below1 _ _⟩
  have HV : Hid (l = 13) := HL.out.trans (by rw [if_neg k13, if_neg k12, if_neg k11, if_neg k10, if_neg (by omega)])
  clear HL HO
  go_enter Tryz.func93, Tryz.ntmps93
  go_wp2_with fail
  go_ret
  exact ⟨by rw [HV.out]; rfl, below1 _ _⟩

/-- What puts a node's text, wherever the buffer stands. -/
def Ex (g : FuncId) (w0 : World) (tb : Nat) (x : NdH) (kv : Value) (S : List UInt8) : Prop := ∀ (F : List UInt8) (W : World), Pt w0 tb F W → Calls Tryz.prog g #[.pointer (some ⟨tb, 0, none⟩), ndV x kv] W (Puts w0 tb F S W)
def ExAt (w0 : World) (tb : Nat) (x : NdH) (kv : Value) (k : Int) (S : List UInt8) : Prop := ∀ (F : List UInt8) (W : World), Pt w0 tb F W → Calls Tryz.prog 62 #[.pointer (some ⟨tb, 0, none⟩), ndV x kv, .int .i64 k] W (Puts w0 tb F S W)

theorem puts_next {w0 W W1 W2 : World} {tb : Nat} {F L M : List UInt8} (h1 : Pt w0 tb (F ++ L) W1) (k1 : KT w0.heap.size W W1) (h2 : Pt w0 tb (F ++ L ++ M) W2) (k2 : KT w0.heap.size W1 W2) : Pt w0 tb (F ++ (L ++ M)) W2 ∧ KT w0.heap.size W W2 := ⟨by rw [← List.append_assoc]; exact h2, k1.trans k2⟩
theorem box_new (w : World) (x : NdH) (kv : Value) : (w.alloc (.cells #[.int .i64 x.kind, .string x.str, .int .u32 x.num, .bool x.flag, kv, .int .i64 x.pos] 25)).heap[w.heap.size]? = some (.cells #[.int .i64 x.kind, .string x.str, .int .u32 x.num, .bool x.flag, kv, .int .i64 x.pos] 25 (0, 0)) := heap_alloc_new w _

set_option maxHeartbeats 4000000 in
theorem at62 {w0 : World} {tb : Nat} {x : NdH} {ks : List Tr} {ka : Option Addr} {kn kc : Nat} {S : List UInt8} (hE : Ex 94 w0 tb x (.slice ka kn kc) S) (h : mayN x ks = true) (k : Int) :
    ExAt w0 tb x (.slice ka kn kc) k (if k ≤ lvl x then S else parenL S) := fun F W hP => by
  have HE := hid' hE
  have h93 : Hid (∀ W, Calls Tryz.prog 93 #[ndV x (.slice ka kn kc)] W fun e w' => e = .returned (.int .i64 (lvl x)) ∧ Below W.heap.size W w') := fun W => level93 h W
  have hP0 := hid' (hP.box (.cells #[.int .i64 x.kind, .string x.str, .int .u32 x.num, .bool x.flag, .slice ka kn kc, .int .i64 x.pos] 25))
  have hb0 := hid' (box_new W x (.slice ka kn kc))
  have hK0 : Hid (KT w0.heap.size W (W.alloc (.cells #[.int .i64 x.kind, .string x.str, .int .u32 x.num, .bool x.flag, .slice ka kn kc, .int .i64 x.pos] 25))) := KT.of_below (below1 _ _)
  clear hE h hP
  generalize lvl x = l at *
  unfold Ex at *
  unfold ndV at *
  generalize hW0 : W.alloc (.cells #[.int .i64 x.kind, .string x.str, .int .u32 x.num, .bool x.flag, .slice ka kn kc, .int .i64 x.pos] 25) = W0 at *
  have HW := hid' hW0
  clear hW0
  by_cases hk : k ≤ l
  · rw [if_pos hk]
    have hk' : ¬ l < k := by omega
    go_enter Tryz.func62, Tryz.ntmps62
    go_wp2_with (first
      | (go_at_call 93; (rw [HW.out]); (with_reducible refine (h93.out _).mono ?_); rintro e w1 ⟨rfl, hb1⟩; have hb1' := hid' ((KT.of_below (B := w0.heap.size) hb1).box hb0.out); obtain ⟨x0, x1, x2, x3, x4, x5⟩ := box_cells hb1'.out; have hP1 := hid' (hP0.out.below hb1); have hK1 := hid' (hK0.out.trans (KT.of_below hb1)); clear hb1)
      | (go_at_call 94; (with_reducible refine (HE.out _ _ hP1.out).mono ?_); rintro e w2 ⟨rfl, hP2, hK2⟩; have hE2 := hid' (And.intro hP2 (hK1.out.trans hK2)); clear hP2 hK2))
    go_end0
    exact ⟨rfl, hE2.out⟩
  · rw [if_neg hk]
    have hk' : l < k := by omega
    go_enter Tryz.func62, Tryz.ntmps62
    go_wp2_with (first
      | (go_at_call 93; (rw [HW.out]); (with_reducible refine (h93.out _).mono ?_); rintro e w1 ⟨rfl, hb1⟩; have hb1' := hid' ((KT.of_below (B := w0.heap.size) hb1).box hb0.out); obtain ⟨x0, x1, x2, x3, x4, x5⟩ := box_cells hb1'.out; have hP1 := hid' (hP0.out.below hb1); have hK1 := hid' (hK0.out.trans (KT.of_below hb1)); clear hb1)
      | (go_at_call 59; (with_reducible refine (put59 hP3.out _ (by decide)).mono ?_); rintro e w4 ⟨rfl, hP4, hK4⟩; replace hP4 := hid' hP4; replace hK4 := hid' (hK3.out.trans hK4))
      | (go_at_call 94; (with_reducible refine (HE.out _ _ hP2.out).mono ?_); rintro e w3 ⟨rfl, hP3, hK3⟩; replace hP3 := hid' hP3; replace hK3 := hid' (hK2.out.trans hK3))
      | (go_at_call 59; (with_reducible refine (put59 hP1.out _ (by decide)).mono ?_); rintro e w2 ⟨rfl, hP2, hK2⟩; clear x0 x1 x2 x3 x4 x5; obtain ⟨x0, x1, x2, x3, x4, x5⟩ := box_cells (hK2.box hb1'.out); replace hP2 := hid' hP2; replace hK2 := hid' (hK1.out.trans hK2)))
    refine bodyPost_ret (v := .tuple #[]) (by simp [results, Tryz.results62, go_sem]) rfl ⟨rfl, hP4.out.cast ?_, hK4.out⟩
    simp [parenL, lst]
end Go.Proofs.YtnnnfabpceapcaaGreatDoor

namespace Go.Proofs.YtnnnfabpceapcaaGreatDoor
set_option linter.unusedSimpArgs false
open Go.RowKit
set_option linter.unusedVariables false

/-- append to a slice that the call itself made, as one step of a region that draws its order. -/
theorem pq_step {P : Program} {ops : Array Oper} {o : Oper} {a : Act} {w : World} {K : Act → World → Prop} {Q : Exit → Act → World → Prop} {E : Prop}
    (hg : o.guard = none) (s x : Operand) (t : TypeId) (hop : o.op = Op.call { callee := Callee.builtin Builtin.append, args := #[s, x], argTypes := #[t, t] })
    (base : Nat) (e : TypeId) (i : TypeInfo) (z : Value) (size bytes : Nat) (h1 : P.underlying t = some (.slice e)) (h2 : P.info? e = some i) (h3 : i.zero = some z) (h4 : i.size = size) (h5 : i.bytes = bytes) (h6 : z.cells.size = size) (h7 : 0 < size)
    (v : Value) (n : Nat) (xs : List Value) (hs : a.eval s = v) (hown : w.ownsRow base e size v n xs)
    (ad : Addr) (m c : Nat) (news : List Value) (hx : a.eval x = .slice (some ad) m c) (hn : news.length = m * size) (hc : ∀ j u, news[j]? = some u → w.cell? (ad.add j) = some u) (h1c : ∀ u ∈ news, u.oneCell' = true)
    (b1 : n + m ≤ maxLen) (b2 : (n + m) * bytes ≤ 140737488355328) (hbase : base ≤ w.heap.size)
    (hK : ∀ v' w', w'.ownsRow base e size v' (n + m) (xs ++ news) → w.grownBy w' v.ownBlock → K (a.put o.dst v') w') :
    if Region.wanted o (yielded ops a.tmps) = true then Oper.wp P o a w K Q else E := by
  have hw : Region.wanted o (yielded ops a.tmps) = true := by simp [Region.wanted, hg]
  rw [if_pos hw]
  obtain ⟨v', w', hrun, r1, r2, _⟩ := run_append_own (P := P) w base t o.type e i z size bytes h1 h2 h3 h4 h5 h6 h7 v n xs hown ad m c news hn hc h1c b1 b2 hbase
  unfold Oper.wp
  simp [execOp, hop, resolve, invoke, builtin, hs, hx, hrun, Result.andThen]
  exact hK v' w' r1 r2
theorem pq_cc {W : World} {g len cap : Nat} {l : List UInt8} (hl : l.length = len) (h : ∀ (j : Nat) (u : Value), (vals l)[j]? = some u → W.cell? ((⟨g, 0, none⟩ : Addr).add j) = some u) :
    (convert 43 9 (.slice (some ⟨g, 0, none⟩) len cap)).run Tryz.prog W = .ok (.string (strL l)) W := by
  have e : strL l = strOfNums (l.map fun x => (x.toNat : Int)) := by
    unfold strOfNums strL
    simp [List.map_map, Function.comp_def]
  rw [e]
  refine run_convert_bytes_arg W 43 5 Tryz.underlying43 Tryz.underlying5 g 0 len cap _ (by simpa using hl) (fun i hi => ?_) 9 Tryz.underlying9
  have hi' : i < l.length := by omega
  have := h i (.int .u8 (l[i].toNat : Int)) (by simp [vals, hi'])
  rw [Addr.add_lit] at this
  simpa [List.getD, hi'] using this
theorem pq_conv {W : World} {N : Nat} {sl : Value} {l : List UInt8} (h : W.ownsRow N 5 1 sl l.length (vals l)) : (convert 43 9 sl).run Tryz.prog W = .ok (.string (strL l)) W := by
  have h' := h
  obtain ⟨_, ⟨rfl, h0⟩ | ⟨g, cap, cur, rfl, _⟩⟩ := h
  · obtain rfl : l = [] := List.eq_nil_of_length_eq_zero h0
    exact run_convert_bytes_nil W 43 5 Tryz.underlying43 Tryz.underlying5 0 0 9 Tryz.underlying9
  · exact pq_cc rfl (h'.cells (g := g) rfl)

/-- A row of bytes of a call's own. -/
def RowB (w : World) (B : Nat) (v : Value) (l : List UInt8) : Prop := w.ownsRow B 5 1 v l.length (vals l)
theorem pq_c1 {w : World} {g : Nat} {a : Value} (h0 : w.cell? ⟨g, 0, none⟩ = some a) : ∀ (j : Nat) (u : Value), [a][j]? = some u → w.cell? ((⟨g, 0, none⟩ : Addr).add j) = some u := by
  intro j u hj
  rw [Addr.add_lit]
  match j, hj with
  | 0, hj => simp at hj; subst hj; simpa using h0
theorem pq_c2 {w : World} {g : Nat} {a b : Value} (h0 : w.cell? ⟨g, 0, none⟩ = some a) (h1 : w.cell? ⟨g, 1, none⟩ = some b) : ∀ (j : Nat) (u : Value), [a, b][j]? = some u → w.cell? ((⟨g, 0, none⟩ : Addr).add j) = some u := by
  intro j u hj
  rw [Addr.add_lit]
  match j, hj with
  | 0, hj => simp at hj; subst hj; simpa using h0
  | 1, hj => simp at hj; subst hj; simpa using h1
theorem pq_c4 {w : World} {g : Nat} {a b c d : Value} (h0 : w.cell? ⟨g, 0, none⟩ = some a) (h1 : w.cell? ⟨g, 1, none⟩ = some b) (h2 : w.cell? ⟨g, 2, none⟩ = some c) (h3 : w.cell? ⟨g, 3, none⟩ = some d) : ∀ (j : Nat) (u : Value), [a, b, c, d][j]? = some u → w.cell? ((⟨g, 0, none⟩ : Addr).add j) = some u := by
  intro j u hj
  rw [Addr.add_lit]
  match j, hj with
  | 0, hj => simp at hj; subst hj; simpa using h0
  | 1, hj => simp at hj; subst hj; simpa using h1
  | 2, hj => simp at hj; subst hj; simpa using h2
  | 3, hj => simp at hj; subst hj; simpa using h3
theorem rowB_append {w : World} {B : Nat} {v : Value} {l d : List UInt8} {m : Nat} {news : List Value} (hd : vals d = news) (hm : d.length = m) (h : w.ownsRow B 5 1 v (l.length + m) (vals l ++ news)) : RowB w B v (l ++ d) := by
  unfold RowB
  rw [vals_append, List.length_append, hd, hm]
  exact h

set_option maxRecDepth 20000 in
set_option maxHeartbeats 8000000 in
theorem rquote121 (s : ByteArray) (hs : s.size ≤ 1048576) (w : World) : Calls Tryz.prog 121 #[.string s] w fun e w' => e = .returned (.string (strL (quoteL (lst s)))) ∧ Below w.heap.size w w' := by
  have hlen := lst_len s
  obtain ⟨i0, hi, hz0, hz1, hz2⟩ := info_parts info5'
  go_enter Tryz.func121, Tryz.ntmps121
  go_wp2
  go_loopw [3, 4] (fun v i wr => ∃ k : Nat, k ≤ s.size ∧ i = .int .i64 k ∧ RowB wr w.heap.size v ([34] ++ ((lst s).take k).flatMap qb) ∧ Below w.heap.size w wr) (fun _ i _ => s.size - (intOf i).toNat)
  case atStart => exact ⟨0, Nat.zero_le _, rfl, ⟨rfl, .inr ⟨w.heap.size, 1, #[.int .u8 34], rfl, Nat.le_refl _, heap_alloc_new w _, Nat.le_refl _, by unfold maxLen; omega, rfl, rfl⟩⟩, below1 _ _⟩
  case round =>
    obtain ⟨k, hk, rfl, hO, hB⟩ := hrel
    have HO := hid hO
    have HB := hid hB
    have hsz := hB.size
    clear hO hB
    have hl : ([34] ++ ((lst s).take k).flatMap qb).length ≤ 4194305 := by
      have h1 := flat_len ((lst s).take k)
      rw [List.length_take] at h1
      rw [List.length_append]
      simp only [List.length_cons, List.length_nil]
      omega
    have HT : Hid (∀ h : k < s.size, [34] ++ ((lst s).take (k + 1)).flatMap qb = ([34] ++ ((lst s).take k).flatMap qb) ++ qb s[k]) := fun h => by
      rw [take_succ s k h, List.flatMap_append, ← List.append_assoc]
      simp
    generalize hL : [34] ++ ((lst s).take k).flatMap qb = L at *
    by_cases hlt : k < s.size
    · have HT2 := hid (HT.out hlt)
      clear HT hL
      have hcl := s[k].toNat_lt
      by_cases q10 : s[k].toNat = 10
      · have hq : qb s[k] = [92, 110] := by unfold qb; rw [if_pos q10]
        have b10 : ((s[k].toNat : Int) == 10) = true := by simp; omega
        go_wp2_with (at_builtin; refine of_mark ?_)
        unfold Mark
        refine wpList_append_own _ rfl _ _ 43 rfl w.heap.size 5 i0 (.int .u8 0) 1 1 Tryz.underlying43 hi hz0 hz1 hz2 rfl (by decide) _ _ _ rfl (World.ownsRow.alloc HO.out _) ⟨wr.heap.size, 0, none⟩ 2 2 [.int .u8 92, .int .u8 110] rfl rfl (pq_c2 (by simp [go_sem]) (by simp [go_sem])) ?c2 ?c3 ?c4 ?c5 ?_
        case c2 => intro u hu; simp at hu; rcases hu with rfl | rfl <;> rfl
        case c3 => unfold maxLen; omega
        case c4 => omega
        case c5 => simp; omega
        intro v' w3 hown2 hgrow _
        have HB3 : Hid (Below w.heap.size w w3) := ((HB.out.alloc hsz _).grown hgrow (by simp; omega) (fun j hj => (World.ownsRow.lt HO.out j hj).1))
        have HO3 : Hid (RowB w3 w.heap.size v' (L ++ [92, 110])) := rowB_append rfl rfl hown2
        rw [← hq] at HO3
        clear hown2 hgrow
        go_wp2
        go_roundw
        case rel => exact ⟨k + 1, by omega, vi (by omega), by rw [HT2.out]; exact HO3.out, HB3.out⟩
        case measure => simp [intOf]; omega
      · skip
        by_cases q9 : s[k].toNat = 9
        · have hq : qb s[k] = [92, 116] := by unfold qb; rw [if_neg q10]; rw [if_pos q9]
          have b10 : ((s[k].toNat : Int) == 10) = false := by simp; omega
          have b9 : ((s[k].toNat : Int) == 9) = true := by simp; omega
          go_wp2_with (at_builtin; refine of_mark ?_)
          unfold Mark
          refine wpList_append_own _ rfl _ _ 43 rfl w.heap.size 5 i0 (.int .u8 0) 1 1 Tryz.underlying43 hi hz0 hz1 hz2 rfl (by decide) _ _ _ rfl (World.ownsRow.alloc HO.out _) ⟨wr.heap.size, 0, none⟩ 2 2 [.int .u8 92, .int .u8 116] rfl rfl (pq_c2 (by simp [go_sem]) (by simp [go_sem])) ?c2 ?c3 ?c4 ?c5 ?_
          case c2 => intro u hu; simp at hu; rcases hu with rfl | rfl <;> rfl
          case c3 => unfold maxLen; omega
          case c4 => omega
          case c5 => simp; omega
          intro v' w3 hown2 hgrow _
          have HB3 : Hid (Below w.heap.size w w3) := ((HB.out.alloc hsz _).grown hgrow (by simp; omega) (fun j hj => (World.ownsRow.lt HO.out j hj).1))
          have HO3 : Hid (RowB w3 w.heap.size v' (L ++ [92, 116])) := rowB_append rfl rfl hown2
          rw [← hq] at HO3
          clear hown2 hgrow
          go_wp2
          go_roundw
          case rel => exact ⟨k + 1, by omega, vi (by omega), by rw [HT2.out]; exact HO3.out, HB3.out⟩
          case measure => simp [intOf]; omega
        · skip
          by_cases q13 : s[k].toNat = 13
          · have hq : qb s[k] = [92, 114] := by unfold qb; rw [if_neg q10]; rw [if_neg q9]; rw [if_pos q13]
            have b10 : ((s[k].toNat : Int) == 10) = false := by simp; omega
            have b9 : ((s[k].toNat : Int) == 9) = false := by simp; omega
            have b13 : ((s[k].toNat : Int) == 13) = true := by simp; omega
            go_wp2_with (at_builtin; refine of_mark ?_)
            unfold Mark
            refine wpList_append_own _ rfl _ _ 43 rfl w.heap.size 5 i0 (.int .u8 0) 1 1 Tryz.underlying43 hi hz0 hz1 hz2 rfl (by decide) _ _ _ rfl (World.ownsRow.alloc HO.out _) ⟨wr.heap.size, 0, none⟩ 2 2 [.int .u8 92, .int .u8 114] rfl rfl (pq_c2 (by simp [go_sem]) (by simp [go_sem])) ?c2 ?c3 ?c4 ?c5 ?_
            case c2 => intro u hu; simp at hu; rcases hu with rfl | rfl <;> rfl
            case c3 => unfold maxLen; omega
            case c4 => omega
            case c5 => simp; omega
            intro v' w3 hown2 hgrow _
            have HB3 : Hid (Below w.heap.size w w3) := ((HB.out.alloc hsz _).grown hgrow (by simp; omega) (fun j hj => (World.ownsRow.lt HO.out j hj).1))
            have HO3 : Hid (RowB w3 w.heap.size v' (L ++ [92, 114])) := rowB_append rfl rfl hown2
            rw [← hq] at HO3
            clear hown2 hgrow
            go_wp2
            go_roundw
            case rel => exact ⟨k + 1, by omega, vi (by omega), by rw [HT2.out]; exact HO3.out, HB3.out⟩
            case measure => simp [intOf]; omega
          · skip
            by_cases q0 : s[k].toNat = 0
            · have hq : qb s[k] = [92, 48] := by unfold qb; rw [if_neg q10]; rw [if_neg q9]; rw [if_neg q13]; rw [if_pos q0]
              have b10 : ((s[k].toNat : Int) == 10) = false := by simp; omega
              have b9 : ((s[k].toNat : Int) == 9) = false := by simp; omega
              have b13 : ((s[k].toNat : Int) == 13) = false := by simp; omega
              have b0 : ((s[k].toNat : Int) == 0) = true := by simp; omega
              go_wp2_with (at_builtin; refine of_mark ?_)
              unfold Mark
              refine wpList_append_own _ rfl _ _ 43 rfl w.heap.size 5 i0 (.int .u8 0) 1 1 Tryz.underlying43 hi hz0 hz1 hz2 rfl (by decide) _ _ _ rfl (World.ownsRow.alloc HO.out _) ⟨wr.heap.size, 0, none⟩ 2 2 [.int .u8 92, .int .u8 48] rfl rfl (pq_c2 (by simp [go_sem]) (by simp [go_sem])) ?c2 ?c3 ?c4 ?c5 ?_
              case c2 => intro u hu; simp at hu; rcases hu with rfl | rfl <;> rfl
              case c3 => unfold maxLen; omega
              case c4 => omega
              case c5 => simp; omega
              intro v' w3 hown2 hgrow _
              have HB3 : Hid (Below w.heap.size w w3) := ((HB.out.alloc hsz _).grown hgrow (by simp; omega) (fun j hj => (World.ownsRow.lt HO.out j hj).1))
              have HO3 : Hid (RowB w3 w.heap.size v' (L ++ [92, 48])) := rowB_append rfl rfl hown2
              rw [← hq] at HO3
              clear hown2 hgrow
              go_wp2
              go_roundw
              case rel => exact ⟨k + 1, by omega, vi (by omega), by rw [HT2.out]; exact HO3.out, HB3.out⟩
              case measure => simp [intOf]; omega
            · skip
              have b10 : ((s[k].toNat : Int) == 10) = false := by simp; omega
              have b9 : ((s[k].toNat : Int) == 9) = false := by simp; omega
              have b13 : ((s[k].toNat : Int) == 13) = false := by simp; omega
              have b0 : ((s[k].toNat : Int) == 0) = false := by simp; omega
              by_cases q2 : s[k].toNat = 34 ∨ s[k].toNat = 92
              · have hq : qb s[k] = [92, s[k]] := by unfold qb; rw [if_neg q10]; rw [if_neg q9]; rw [if_neg q13]; rw [if_neg q0]; rw [if_pos q2]
                rcases q2 with q2 | q2
                · have b34 : ((s[k].toNat : Int) == 34) = true := by simp; omega
                  clear q2
                  go_wp2_with (at_builtin; refine of_mark ?_)
                  unfold Mark
                  refine wpList_append_own _ rfl _ _ 43 rfl w.heap.size 5 i0 (.int .u8 0) 1 1 Tryz.underlying43 hi hz0 hz1 hz2 rfl (by decide) _ _ _ rfl (World.ownsRow.alloc HO.out _) ⟨wr.heap.size, 0, none⟩ 2 2 [.int .u8 92, .int .u8 (s[k].toNat : Int)] rfl rfl (pq_c2 (by simp [go_sem]) (by simp [go_sem])) ?c2 ?c3 ?c4 ?c5 ?_
                  case c2 => intro u hu; simp at hu; rcases hu with rfl | rfl <;> rfl
                  case c3 => unfold maxLen; omega
                  case c4 => omega
                  case c5 => simp; omega
                  intro v' w3 hown2 hgrow _
                  have HB3 : Hid (Below w.heap.size w w3) := ((HB.out.alloc hsz _).grown hgrow (by simp; omega) (fun j hj => (World.ownsRow.lt HO.out j hj).1))
                  have HO3 : Hid (RowB w3 w.heap.size v' (L ++ [92, s[k]])) := rowB_append rfl rfl hown2
                  rw [← hq] at HO3
                  clear hown2 hgrow
                  go_wp2
                  go_roundw
                  case rel => exact ⟨k + 1, by omega, vi (by omega), by rw [HT2.out]; exact HO3.out, HB3.out⟩
                  case measure => simp [intOf]; omega
                · have b34 : ((s[k].toNat : Int) == 34) = false := by simp; omega
                  have b92 : ((s[k].toNat : Int) == 92) = true := by simp; omega
                  clear q2
                  go_wp2_with (at_builtin; refine of_mark ?_)
                  unfold Mark
                  refine wpList_append_own _ rfl _ _ 43 rfl w.heap.size 5 i0 (.int .u8 0) 1 1 Tryz.underlying43 hi hz0 hz1 hz2 rfl (by decide) _ _ _ rfl (World.ownsRow.alloc HO.out _) ⟨wr.heap.size, 0, none⟩ 2 2 [.int .u8 92, .int .u8 (s[k].toNat : Int)] rfl rfl (pq_c2 (by simp [go_sem]) (by simp [go_sem])) ?c2 ?c3 ?c4 ?c5 ?_
                  case c2 => intro u hu; simp at hu; rcases hu with rfl | rfl <;> rfl
                  case c3 => unfold maxLen; omega
                  case c4 => omega
                  case c5 => simp; omega
                  intro v' w3 hown2 hgrow _
                  have HB3 : Hid (Below w.heap.size w w3) := ((HB.out.alloc hsz _).grown hgrow (by simp; omega) (fun j hj => (World.ownsRow.lt HO.out j hj).1))
                  have HO3 : Hid (RowB w3 w.heap.size v' (L ++ [92, s[k]])) := rowB_append rfl rfl hown2
                  rw [← hq] at HO3
                  clear hown2 hgrow
                  go_wp2
                  go_roundw
                  case rel => exact ⟨k + 1, by omega, vi (by omega), by rw [HT2.out]; exact HO3.out, HB3.out⟩
                  case measure => simp [intOf]; omega
              · skip
                have b34 : ((s[k].toNat : Int) == 34) = false := by simp; omega
                have b92 : ((s[k].toNat : Int) == 92) = false := by simp; omega
                cases hp : plainB s[k]
                · have hq : qb s[k] = [92, 120, hd (s[k].toNat / 16), hd (s[k].toNat % 16)] := by unfold qb; rw [if_neg q10]; rw [if_neg q9]; rw [if_neg q13]; rw [if_neg q0]; rw [if_neg q2, if_neg (by rw [hp]; simp)]
                  have hor : (s[k].toNat : Int) < 32 ∨ (126 : Int) < s[k].toNat := by simp [plainB] at hp; omega
                  clear hp
                  have hc2 : (s[k].toNat : Int) / 16 < 16 := by omega
                  have hc3 : 0 ≤ (s[k].toNat : Int) / 16 := by omega
                  have hand := and15 s[k]
                  rcases hor with hor | hor
                  · have hc4 : (s[k].toNat : Int) % 16 < 16 := by omega
                    have hc5 : 0 ≤ (s[k].toNat : Int) % 16 := by omega
                    go_wp2
                    have x1 : ((s[k].toNat : Int) / 16).toNat < hexS.size := by (show _ < 16); omega
                    have x2 : ((s[k].toNat : Int) % 16).toNat < hexS.size := by (show _ < 16); omega
                    have hY : Hid (((wr.alloc (.cells #[.int .u8 92, .int .u8 120, .int .u8 (hexS[((s[k].toNat : Int) / 16).toNat].toNat : Int), .int .u8 (hexS[((s[k].toNat : Int) % 16).toNat].toNat : Int)] 5)).drew).ownsRow w.heap.size 5 1 u3 L.length (vals L)) := (World.ownsRow.alloc HO.out _).drew
                    have hBd : Hid (Below w.heap.size w ((wr.alloc (.cells #[.int .u8 92, .int .u8 120, .int .u8 (hexS[((s[k].toNat : Int) / 16).toNat].toNat : Int), .int .u8 (hexS[((s[k].toNat : Int) % 16).toNat].toNat : Int)] 5)).drew)) := (HB.out.alloc hsz _).trans ⟨rfl, rfl, rfl, Nat.le_refl _, fun _ _ => rfl⟩
                    have y1 := hid (show ((s[k].toNat : Int) / 16).toNat = s[k].toNat / 16 by omega)
                    have y2 := hid (show ((s[k].toNat : Int) % 16).toNat = s[k].toNat % 16 by omega)
                    go_region_law (refine pq_step rfl (.tmp 16) (.tmp 23) 43 rfl w.heap.size 5 i0 (.int .u8 0) 1 1 Tryz.underlying43 hi hz0 hz1 hz2 rfl (by decide) u3 L.length (vals L) (by simp [Act.eval]) hY.out ⟨wr.heap.size, 0, none⟩ 4 4 [.int .u8 92, .int .u8 120, .int .u8 (hexS[((s[k].toNat : Int) / 16).toNat].toNat : Int), .int .u8 (hexS[((s[k].toNat : Int) % 16).toNat].toNat : Int)] (by simp [Act.eval]) rfl (pq_c4 (by simp [go_sem]) (by simp [go_sem]) (by simp [go_sem]) (by simp [go_sem])) (fun u hu => by simp at hu; rcases hu with rfl | rfl | rfl | rfl <;> rfl) (by unfold maxLen; omega) (by omega) (by simp; omega) ?_; intro v' w3 hown2 hgrow)
                    all_goals
                      have HB3 : Hid (Below w.heap.size w w3) := Below.grown hBd.out hgrow (by simp; omega) (fun j hj => (World.ownsRow.lt HO.out j hj).1)
                      have HO3 : Hid (RowB w3 w.heap.size v' (L ++ [92, 120, hd (s[k].toNat / 16), hd (s[k].toNat % 16)])) := rowB_append (by rw [← y1.out, ← y2.out, ← hd_at _ x1, ← hd_at _ x2]; rfl) rfl hown2
                      rw [← hq] at HO3
                      clear hown2 hgrow
                      try go_wp2
                      first
                        | exact ⟨⟨k + 1, by omega, vi (by omega), by rw [HT2.out]; exact HO3.out, HB3.out⟩, by simp [intOf]; omega⟩
                        | (go_roundw
                           case rel => exact ⟨k + 1, by omega, vi (by omega), by rw [HT2.out]; exact HO3.out, HB3.out⟩
                           case measure => simp [intOf]; omega)
                  · have hc4 : (s[k].toNat : Int) % 16 < 16 := by omega
                    have hc5 : 0 ≤ (s[k].toNat : Int) % 16 := by omega
                    go_wp2
                    have x1 : ((s[k].toNat : Int) / 16).toNat < hexS.size := by (show _ < 16); omega
                    have x2 : ((s[k].toNat : Int) % 16).toNat < hexS.size := by (show _ < 16); omega
                    have hY : Hid (((wr.alloc (.cells #[.int .u8 92, .int .u8 120, .int .u8 (hexS[((s[k].toNat : Int) / 16).toNat].toNat : Int), .int .u8 (hexS[((s[k].toNat : Int) % 16).toNat].toNat : Int)] 5)).drew).ownsRow w.heap.size 5 1 u3 L.length (vals L)) := (World.ownsRow.alloc HO.out _).drew
                    have hBd : Hid (Below w.heap.size w ((wr.alloc (.cells #[.int .u8 92, .int .u8 120, .int .u8 (hexS[((s[k].toNat : Int) / 16).toNat].toNat : Int), .int .u8 (hexS[((s[k].toNat : Int) % 16).toNat].toNat : Int)] 5)).drew)) := (HB.out.alloc hsz _).trans ⟨rfl, rfl, rfl, Nat.le_refl _, fun _ _ => rfl⟩
                    have y1 := hid (show ((s[k].toNat : Int) / 16).toNat = s[k].toNat / 16 by omega)
                    have y2 := hid (show ((s[k].toNat : Int) % 16).toNat = s[k].toNat % 16 by omega)
                    go_region_law (refine pq_step rfl (.tmp 16) (.tmp 23) 43 rfl w.heap.size 5 i0 (.int .u8 0) 1 1 Tryz.underlying43 hi hz0 hz1 hz2 rfl (by decide) u3 L.length (vals L) (by simp [Act.eval]) hY.out ⟨wr.heap.size, 0, none⟩ 4 4 [.int .u8 92, .int .u8 120, .int .u8 (hexS[((s[k].toNat : Int) / 16).toNat].toNat : Int), .int .u8 (hexS[((s[k].toNat : Int) % 16).toNat].toNat : Int)] (by simp [Act.eval]) rfl (pq_c4 (by simp [go_sem]) (by simp [go_sem]) (by simp [go_sem]) (by simp [go_sem])) (fun u hu => by simp at hu; rcases hu with rfl | rfl | rfl | rfl <;> rfl) (by unfold maxLen; omega) (by omega) (by simp; omega) ?_; intro v' w3 hown2 hgrow)
                    all_goals
                      have HB3 : Hid (Below w.heap.size w w3) := Below.grown hBd.out hgrow (by simp; omega) (fun j hj => (World.ownsRow.lt HO.out j hj).1)
                      have HO3 : Hid (RowB w3 w.heap.size v' (L ++ [92, 120, hd (s[k].toNat / 16), hd (s[k].toNat % 16)])) := rowB_append (by rw [← y1.out, ← y2.out, ← hd_at _ x1, ← hd_at _ x2]; rfl) rfl hown2
                      rw [← hq] at HO3
                      clear hown2 hgrow
                      try go_wp2
                      first
                        | exact ⟨⟨k + 1, by omega, vi (by omega), by rw [HT2.out]; exact HO3.out, HB3.out⟩, by simp [intOf]; omega⟩
                        | (go_roundw
                           case rel => exact ⟨k + 1, by omega, vi (by omega), by rw [HT2.out]; exact HO3.out, HB3.out⟩
                           case measure => simp [intOf]; omega)
                · have hq : qb s[k] = [s[k]] := by unfold qb; rw [if_neg q10]; rw [if_neg q9]; rw [if_neg q13]; rw [if_neg q0]; rw [if_neg q2, if_pos hp]
                  have hr1 : (32 : Int) ≤ s[k].toNat := by simp [plainB] at hp; omega
                  have hr2 : (s[k].toNat : Int) ≤ 126 := by simp [plainB] at hp; omega
                  clear hp
                  go_wp2_with (at_builtin; refine of_mark ?_)
                  unfold Mark
                  refine wpList_append_own _ rfl _ _ 43 rfl w.heap.size 5 i0 (.int .u8 0) 1 1 Tryz.underlying43 hi hz0 hz1 hz2 rfl (by decide) _ _ _ rfl (World.ownsRow.alloc HO.out _) ⟨wr.heap.size, 0, none⟩ 1 1 [.int .u8 (s[k].toNat : Int)] rfl rfl (pq_c1 (by simp [go_sem])) ?c2 ?c3 ?c4 ?c5 ?_
                  case c2 => intro u hu; simp at hu; subst hu; rfl
                  case c3 => unfold maxLen; omega
                  case c4 => omega
                  case c5 => simp; omega
                  intro v' w3 hown2 hgrow _
                  have HB3 : Hid (Below w.heap.size w w3) := ((HB.out.alloc hsz _).grown hgrow (by simp; omega) (fun j hj => (World.ownsRow.lt HO.out j hj).1))
                  have HO3 : Hid (RowB w3 w.heap.size v' (L ++ [s[k]])) := rowB_append rfl rfl hown2
                  rw [← hq] at HO3
                  clear hown2 hgrow
                  go_wp2
                  go_roundw
                  case rel => exact ⟨k + 1, by omega, vi (by omega), by rw [HT2.out]; exact HO3.out, HB3.out⟩
                  case measure => simp [intOf]; omega
    · have e1 : (lst s).take k = lst s := List.take_of_length_le (by omega)
      rw [e1] at hL
      go_wp2_with (at_builtin; refine of_mark ?_)
      unfold Mark
      refine wpList_append_own _ rfl _ _ 43 rfl w.heap.size 5 i0 (.int .u8 0) 1 1 Tryz.underlying43 hi hz0 hz1 hz2 rfl (by decide) _ _ _ rfl (World.ownsRow.alloc HO.out _) ⟨wr.heap.size, 0, none⟩ 1 1 [.int .u8 34] rfl rfl (pq_c1 (by simp [go_sem])) ?c2 ?c3 ?c4 ?c5 ?_
      case c2 => intro u hu; simp at hu; subst hu; rfl
      case c3 => unfold maxLen; omega
      case c4 => omega
      case c5 => simp; omega
      intro v' w3 hown2 hgrow _
      have HB3 : Hid (Below w.heap.size w w3) := ((HB.out.alloc hsz _).grown hgrow (by simp; omega) (fun j hj => (World.ownsRow.lt HO.out j hj).1))
      have HO3 : RowB w3 w.heap.size v' (L ++ [34]) := rowB_append rfl rfl hown2
      have hcv := pq_conv HO3
      clear hown2 hgrow HO3
      go_wp2
      go_ret
      exact ⟨ret_str (by rw [← hL]; rfl), HB3.out⟩
end Go.Proofs.YtnnnfabpceapcaaGreatDoor

namespace Go.Proofs.YtnnnfabpceapcaaGreatDoor
set_option linter.unusedSimpArgs false
open Go.RowKit
set_option linter.unusedVariables false
set_option linter.unusedSimpArgs false

theorem lst_app (a b : ByteArray) : lst (a ++ b) = lst a ++ lst b := by unfold lst; simp
theorem lst_eq_of {s t : ByteArray} (h : s.data.toList = t.data.toList) : s = t := by
  cases s; cases t
  simp at h
  rw [h]
theorem sz_1 {b : ByteArray} (h : b.size ≤ 1048576) : b.size ≤ 100000000 := by omega
theorem sz_l {a b : ByteArray} (ha : a.size ≤ 100) (h : b.size ≤ 1048576) : (a ++ b).size ≤ 100000000 := by rw [ByteArray.size_append]; omega
theorem sz_r {a b : ByteArray} (h : b.size ≤ 1048576) (ha : a.size ≤ 100) : (b ++ a).size ≤ 100000000 := by rw [ByteArray.size_append]; omega
theorem sz_3 {a b c : ByteArray} (ha : a.size ≤ 100) (h : b.size ≤ 1048576) (hc : c.size ≤ 100) : (a ++ b ++ c).size ≤ 100000000 := by rw [ByteArray.size_append, ByteArray.size_append]; omega
theorem sz_t {a b : ByteArray} (ha : a.size ≤ 1048576) (h : b.size ≤ 1048576) : (a ++ b).size ≤ 100000000 := by rw [ByteArray.size_append]; omega
theorem lst_lit (a : Array UInt8) : lst ⟨a⟩ = a.toList := rfl
theorem nd_below {w w' : World} {b o : Nat} {x : NdH} {kv : Value} (h : NdAt w b o x kv) (hb : Below w.heap.size w w') (hl : b < w.heap.size) : NdAt w' b o x kv := h.kept (Kept.of_below (S := fun _ => False) hb) hl (fun e => e)
theorem lvl_nn (x : NdH) : 0 ≤ lvl x := by
  unfold lvl logF binF
  repeat' split
  all_goals omega
theorem join_snoc (sep : List UInt8) (a : List UInt8) : ∀ (l : List (List UInt8)), l ≠ [] → joinL sep (l ++ [a]) = joinL sep l ++ (sep ++ a)
  | [], h => absurd rfl h
  | [b], _ => rfl
  | b :: c :: r, _ => by
    have ih := join_snoc sep a (c :: r) (by simp)
    show b ++ (sep ++ joinL sep ((c :: r) ++ [a])) = (b ++ (sep ++ joinL sep (c :: r))) ++ (sep ++ a)
    rw [ih]
    simp

/-- A kid that is an expression. -/
def KidX (w0 : World) (tb : Nat) (ao : Option Addr) (t : Tr) (i : Nat) : Prop :=
  ∃ b off x kv, ao = some ⟨b, off, none⟩ ∧ b < w0.heap.size ∧ NdAt w0 b (off + i * 6) x kv ∧ hdT t = x ∧ (∀ k, ExAt w0 tb x kv k (atL k t (spellT qtL t))) ∧ Ex 94 w0 tb x kv (spellT qtL t) ∧ ∃ ka kn kc, kv = .slice ka kn kc

set_option maxHeartbeats 4000000 in
theorem list92 {w0 W : World} {tb : Nat} {F : List UInt8} {ao : Option Addr} {cap : Nat} {ks : List Tr} (hl : ks.length ≤ 9223372036854775807) (hP : Pt w0 tb F W) (hk : ∀ i (hi : i < ks.length), KidX w0 tb ao ks[i] i) :
    Calls Tryz.prog 92 #[.pointer (some ⟨tb, 0, none⟩), .slice ao ks.length cap] W (Puts w0 tb F (joinL [44, 32] (ks.map (spellT qtL))) W) := by
  have HP := hid' hP
  have HK := hid' hk
  clear hP hk
  go_enter Tryz.func92, Tryz.ntmps92
  go_wp2
  go_loopw [4] (fun i wr => ∃ j : Nat, j ≤ ks.length ∧ i = .int .i64 (j : Nat) ∧ Pt w0 tb (F ++ joinL [44, 32] ((ks.take j).map (spellT qtL))) wr ∧ KT w0.heap.size W wr) (fun i _ => ks.length - (intOf i).toNat)
  case atStart => exact ⟨0, Nat.zero_le _, rfl, HP.out.cast (by simp [joinL]), KT.rfl _ _⟩
  case round =>
    obtain ⟨j, hj, rfl, hPt, hKt⟩ := hrel
    have HPt := hid' hPt
    have HKt := hid' hKt
    have hbel := hPt.bel
    clear hPt hKt
    by_cases hjt : j < ks.length
    · obtain ⟨b, off, x, kv, rfl, hlt, hc, hhd, hA, _⟩ := HK.out j hjt
      have hA0 : ExAt w0 tb x kv 0 (spellT qtL ks[j]) := by
        have := hA 0
        unfold atL at this
        rw [if_pos (lvl_nn _)] at this
        exact this
      have HA := hid' hA0
      have HC : Hid (∀ W', Below w0.heap.size w0 W' → NdAt W' b (off + j * 6) x kv) := fun W' hb => nd_below hc hb hlt
      have hlw : b < wr.heap.size := Nat.lt_of_lt_of_le hlt hbel.size
      have hij : (j : Int) < ks.length := by omega
      have HN : Hid (joinL [44, 32] ((ks.take (j + 1)).map (spellT qtL)) = joinL [44, 32] ((ks.take j).map (spellT qtL) ++ [spellT qtL ks[j]])) := by
        unfold Hid
        rw [take_next ks j hjt, List.map_append]
        rfl
      clear hA hA0 hhd hc
      unfold ExAt at HA
      unfold ndV at HA
      by_cases h0 : j = 0
      · subst h0
        obtain ⟨c0, c1, c2, c3, c4, c5⟩ := HC.out wr hbel
        simp only [Nat.zero_mul, Nat.add_zero] at c0 c1 c2 c3 c4 c5
        go_wp2_with (go_at_call 62; (with_reducible refine (HA.out _ _ HPt.out).mono ?_); rintro e w1 ⟨rfl, hP1, hK1⟩; replace hP1 := hid' hP1; replace hK1 := hid' hK1)
        go_roundw
        case rel => exact ⟨1, by omega, by go_num, hP1.out.cast (by rw [HN.out]; simp [joinL]), HKt.out.trans hK1.out⟩
        case measure => simp [intOf]; omega
      · have hjp : (0 : Int) < j := by omega
        have HJ : Hid (joinL [44, 32] ((ks.take j).map (spellT qtL) ++ [spellT qtL ks[j]]) = joinL [44, 32] ((ks.take j).map (spellT qtL)) ++ ([44, 32] ++ spellT qtL ks[j])) := join_snoc _ _ _ (by
          intro e
          have := congrArg List.length e
          rw [List.length_map, List.length_take, List.length_nil] at this
          omega)
        go_wp2_with (first
          | (go_at_call 62; (with_reducible refine (HA.out _ _ hP1.out).mono ?_); rintro e w2 ⟨rfl, hP2, hK2⟩; replace hP2 := hid' hP2; replace hK2 := hid' hK2)
          | (go_at_call 59; (with_reducible refine (put59 HPt.out _ (by decide)).mono ?_); rintro e w1 ⟨rfl, hP1, hK1⟩; obtain ⟨c0, c1, c2, c3, c4, c5⟩ := HC.out w1 hP1.bel; have hl1 : b < w1.heap.size := Nat.lt_of_lt_of_le hlt hP1.bel.size; replace hP1 := hid' hP1; replace hK1 := hid' hK1))
        go_roundw
        case rel => exact ⟨j + 1, by omega, by go_num, hP2.out.cast (by rw [HN.out, HJ.out]; simp [lst_lit]), HKt.out.trans (hK1.out.trans hK2.out)⟩
        case measure => simp [intOf]; omega
    · have e : j = ks.length := by omega
      subst e
      go_wp2_with fail
      go_end0
      exact ⟨rfl, HPt.out.cast (by rw [List.take_length]), HKt.out⟩
end Go.Proofs.YtnnnfabpceapcaaGreatDoor

namespace Go.Proofs.YtnnnfabpceapcaaGreatDoor
set_option linter.unusedSimpArgs false
open Go.RowKit
set_option linter.unusedVariables false
set_option linter.unusedSimpArgs false

theorem decF_eq (f n : Nat) : decF (f + 1) n = if n < 10 then [digC n] else decF f (n / 10) ++ [digC (n % 10)] := rfl
theorem dec_more : ∀ (f g n : Nat), n < 10 ^ (f + 1) → f ≤ g → decF (g + 1) n = decF (f + 1) n
  | 0, g, n, hn, _ => by
    have : n < 10 := by simpa using hn
    rw [decF_eq, decF_eq, if_pos this, if_pos this]
  | f + 1, g + 1, n, hn, hg => by
    rw [decF_eq (g + 1), decF_eq (f + 1)]
    by_cases h9 : n < 10
    · rw [if_pos h9, if_pos h9]
    · rw [if_neg h9, if_neg h9, dec_more f g (n / 10) (by rw [Nat.pow_succ] at hn; omega) (by omega)]
theorem dec_step (n : Nat) (h : n < 4294967296) (h0 : 0 < n) : decF 20 n = (if n / 10 = 0 then [] else decF 20 (n / 10)) ++ [digC (n % 10)] := by
  rw [decF_eq 19]
  by_cases h9 : n < 10
  · rw [if_pos h9, if_pos (by omega), Nat.mod_eq_of_lt h9]
    rfl
  · rw [if_neg h9, if_neg (by omega), dec_more 18 19 (n / 10) (by have : (10 : Nat) ^ (18 + 1) = 10000000000000000000 := by decide
                                                                  omega) (by omega)]
def Mark2 (p : Prop) : Prop := p
theorem of_mark2 {p : Prop} (h : Mark2 p) : p := h
def lenZ (v : Value) : Nat := match v with
  | .slice _ n _ => if n = 0 then 1 else 0
  | _ => 0
/-- A row of bytes, as it lies. -/
def RowAt (w0 W : World) (v : Value) (D : List UInt8) : Prop := ∃ g cap, v = .slice (some ⟨g, 0, none⟩) D.length cap ∧ g < W.heap.size ∧ (∀ j u, (vals D)[j]? = some u → W.cell? ⟨g, j, none⟩ = some u)
/-- In the midst. -/
def DecR (N m : Nat) (D : List UInt8) : Prop := (D = [] ∧ m = N) ∨ (D ≠ [] ∧ decF 20 N = (if m = 0 then [] else decF 20 m) ++ D)
theorem decR_step {N m : Nat} {D : List UInt8} (hN : N < 4294967296) (hm : m < 4294967296) (h : DecR N m D) (hgo : 0 < m ∨ D = []) : DecR N (m / 10) (digC (m % 10) :: D) := by
  refine .inr ⟨by simp, ?_⟩
  rcases h with ⟨rfl, rfl⟩ | ⟨hD, h⟩
  · by_cases h0 : m = 0
    · subst h0; rfl
    · rw [dec_step m hm (by omega)]
  · rcases hgo with hgo | hgo
    · rw [h, if_neg (by omega), dec_step m hm hgo, List.append_assoc]
      rfl
    · exact absurd hgo hD

set_option maxHeartbeats 4000000 in
set_option maxRecDepth 20000 in
theorem decimal120 (N : Nat) (hN : N < 4294967296) (w : World) :
    Calls Tryz.prog 120 #[.int .u32 (N : Int)] w fun e w' => e = .returned (.string (strL (decF 20 N))) ∧ Below w.heap.size w w' := by
  obtain ⟨i, hi, hz, h1s, hby⟩ := info_parts info5p
  go_enter Tryz.func120, Tryz.ntmps120
  go_wp2
  go_loopw [0, 3] (fun n v wr => ∃ (m : Nat) (D : List UInt8), n = .int .u32 (m : Int) ∧ m ≤ N ∧ DecR N m D ∧ RowAt w wr v D ∧ Below w.heap.size w wr ∧ D.length + m ≤ N + 1) (fun n v _ => (intOf n).toNat + lenZ v)
  case atStart => exact ⟨N, [], rfl, Nat.le_refl _, .inl ⟨rfl, rfl⟩, ⟨w.heap.size, 0, rfl, by simp, fun j u hj => by simp [vals] at hj⟩, below1 _ _, by simp⟩
  case round =>
    obtain ⟨m, D, rfl, hmN, hR, ⟨g, cap, rfl, hg, hcells⟩, hB, hlen⟩ := hrel
    have HR := hid' hR
    have HB := hid' hB
    have HC := hid' hcells
    clear hR hB hcells
    by_cases hgo : 0 < m ∨ D = []
    · have HN := hid' (decR_step hN (by omega) HR.out hgo)
      have hd : 48 + m % 10 < 256 := by omega
      have hdig : (digC (m % 10)).toNat = 48 + m % 10 := by unfold digC; simp; omega
      have hsz : w.heap.size ≤ wr.heap.size := HB.out.size
      have hOwn : (wr.alloc (.cells #[.int .u8 ((digC (m % 10)).toNat : Int)] 5)).ownsRow w.heap.size 5 1 (.slice (some ⟨wr.heap.size, 0, none⟩) 1 1) 1 [.int .u8 ((digC (m % 10)).toNat : Int)] :=
        ⟨by simp, .inr ⟨wr.heap.size, 1, _, rfl, hsz, heap_alloc_new wr _, Nat.le_refl _, by unfold maxLen; omega, by simp, by simp⟩⟩
      obtain ⟨v', w', hr, ho, hgr, _, _⟩ := run_append_own_at (P := Tryz.prog) (wr.alloc (.cells #[.int .u8 ((digC (m % 10)).toNat : Int)] 5)) w.heap.size 43 43 5 i (.int .u8 0) 1 1 Tryz.underlying43 hi hz h1s hby rfl (by decide) _ _ _ hOwn ⟨g, 0, none⟩ D.length cap (vals D) (by rw [vals_len, Nat.mul_one]) (fun j u hj => by
        rw [Addr.add_lit, Nat.zero_add]
        rw [(below1 wr _).cell (p := ⟨g, j, none⟩) hg]
        exact HC.out j u hj) (by intro u hu; unfold vals at hu; obtain ⟨x, _, rfl⟩ := List.mem_map.1 hu; rfl) (by unfold maxLen; omega) (by omega) (by simp; omega)
      have hdI : ((digC (m % 10)).toNat : Int) = 48 + (m : Int) % 10 := by rw [hdig]; omega
      rw [hdI] at hr
      have ho' : w'.ownsRow w.heap.size 5 1 v' (digC (m % 10) :: D).length (vals (digC (m % 10) :: D)) := by
        have e1 : (digC (m % 10) :: D).length = 1 + D.length := by simp; omega
        have e2 : vals (digC (m % 10) :: D) = [.int .u8 ((digC (m % 10)).toNat : Int)] ++ vals D := rfl
        rw [e1, e2]
        exact ho
      have HE : Hid (RowAt w w' v' (digC (m % 10) :: D) ∧ Below w.heap.size w w') := by
        refine ⟨?_, ?_⟩
        · rcases ho'.2 with ⟨_, e⟩ | ⟨k, c, cur, e, hb', hh, _⟩
          · simp at e
          · subst e
            refine ⟨k, c, rfl, (Array.getElem?_eq_some_iff.1 hh).1, fun j u hj => ?_⟩
            have := World.ownsRow.cells ho' (g := k) rfl j u hj
            rw [Addr.add_lit, Nat.zero_add] at this
            exact this
        · exact (HB.out.alloc hsz _).grown hgr (by simp; omega) (fun k hk => by simp [Value.ownBlock] at hk; omega)
      obtain ⟨k1, c1, rfl⟩ : ∃ k1 c1, v' = .slice (some ⟨k1, 0, none⟩) (D.length + 1) c1 := by
        rcases ho'.2 with ⟨_, e⟩ | ⟨k, c, cur, e, _⟩
        · simp at e
        · exact ⟨k, c, by simpa using e⟩
      clear hOwn ho ho' hgr
      have hq : ((m / 10 : Nat) : Int) = (m : Int) / 10 := by omega
      by_cases hm0 : 0 < m
      · go_wp2_with (at_builtin; refine wpList_append_str rfl _ _ rfl _ _ _ rfl rfl hr ?_)
        go_roundw
        case rel => exact ⟨m / 10, digC (m % 10) :: D, by rw [hq], by omega, HN.out, HE.out.1, HE.out.2, by simp; omega⟩
        case measure => simp [intOf, lenZ]; omega
      · have hD : D = [] := by rcases hgo with h | h; omega; exact h
        have h0 : m = 0 := by omega
        subst hD h0
        clear hgo hm0 hdI hdig hd HC hq hN
        rw [show (48 : Int) + ((0 : Nat) : Int) % 10 = 48 by decide] at hr
        go_wp2_with (at_builtin; refine wpList_append_str rfl _ _ rfl _ _ _ rfl rfl hr ?_)
        go_roundw
        case rel => exact ⟨0, digC 0 :: [], by first | rfl | simp, by omega, HN.out, HE.out.1, HE.out.2, by simp⟩
        case measure => simp [intOf, lenZ]
    · have hD : D ≠ [] := fun e => hgo (.inr e)
      have h0 : m = 0 := by omega
      subst h0
      have HV : Hid (decF 20 N = D) := by
        rcases HR.out with ⟨e, _⟩ | ⟨_, e⟩
        · exact absurd e hD
        · rw [e]; rfl
      have hlD : ¬ (D.length : Int) = 0 := by
        intro e
        exact hD (List.eq_nil_of_length_eq_zero (by omega))
      have hlD2 : ((D.length : Int) == 0) = false := by rw [beq_eq_false_iff_ne]; exact hlD
      have hcv := pq_cc (W := wr) (g := g) (len := D.length) (cap := cap) (l := D) rfl (fun j u hj => by rw [Addr.add_lit, Nat.zero_add]; exact HC.out j u hj)
      clear hgo hD
      go_wp2_with fail
      go_ret
      exact ⟨by rw [HV.out]; rfl, HB.out⟩
end Go.Proofs.YtnnnfabpceapcaaGreatDoor

namespace Go.Proofs.YtnnnfabpceapcaaGreatDoor
set_option linter.unusedSimpArgs false
open Go.RowKit
set_option linter.unusedVariables false
set_option linter.unusedSimpArgs false

set_option maxHeartbeats 8000000 in
set_option maxRecDepth 20000 in
theorem ex94_5 {w0 : World} {tb : Nat} {str : ByteArray} {num pos : Int} {flag : Bool} {b0 o0 kn kc : Nat} (hlt : b0 < w0.heap.size) (hs : str.size ≤ 1048576) {t0 : Tr} {x0 : NdH} {kv0 : Value} (hc0 : NdAt w0 b0 (o0 + 0 * 6) x0 kv0) {t1 : Tr} {x1 : NdH} {kv1 : Value} (hc1 : NdAt w0 b0 (o0 + 1 * 6) x1 kv1){A0 A1 : List UInt8} (hA0 : ExAt w0 tb x0 kv0 13 A0) (hA1 : ExAt w0 tb x1 kv1 0 A1) :
    Ex 94 w0 tb ⟨5, str, num, flag, pos⟩ (.slice (some ⟨b0, o0, none⟩) 2 kc) (A0 ++ ([91] ++ (A1 ++ [93]))) := fun F W hP => by
  have hP0 := hid' (hP.box (.cells #[.int .i64 5, .string str, .int .u32 num, .bool flag, .slice (some ⟨b0, o0, none⟩) 2 kc, .int .i64 pos] 25))
  have hb0 := hid' (heap_alloc_new W (.cells #[.int .i64 5, .string str, .int .u32 num, .bool flag, .slice (some ⟨b0, o0, none⟩) 2 kc, .int .i64 pos] 25))
  have hK0 : Hid (KT w0.heap.size W (W.alloc (.cells #[.int .i64 5, .string str, .int .u32 num, .bool flag, .slice (some ⟨b0, o0, none⟩) 2 kc, .int .i64 pos] 25))) := KT.of_below (below1 _ _)
  have hlW : b0 < W.heap.size := Nat.lt_of_lt_of_le hlt hP.bel.size
  have HC0 : Hid (∀ W', Below w0.heap.size w0 W' → NdAt W' b0 (o0 + 0 * 6) x0 kv0) := fun W' hb => nd_below hc0 hb hlt
  have HC1 : Hid (∀ W', Below w0.heap.size w0 W' → NdAt W' b0 (o0 + 1 * 6) x1 kv1) := fun W' hb => nd_below hc1 hb hlt
  obtain ⟨c00, c01, c02, c03, c04, c05⟩ := HC0.out W hP.bel
  obtain ⟨c10, c11, c12, c13, c14, c15⟩ := HC1.out W hP.bel
  clear hc0
  clear hc1
  clear hP
  try unfold Ex at *
  try unfold ExAt at *
  unfold ndV at *
  try simp only [Nat.zero_mul, Nat.add_zero, Nat.one_mul, Nat.reduceMul, Nat.add_assoc, Nat.reduceAdd] at c00 c01 c02 c03 c04 c05
  try simp only [Nat.zero_mul, Nat.add_zero, Nat.one_mul, Nat.reduceMul, Nat.add_assoc, Nat.reduceAdd] at c10 c11 c12 c13 c14 c15
  go_enter Tryz.func94, Tryz.ntmps94
  go_wp2_with (first
    | (go_at_call 59; (with_reducible refine (put59 hP3.out _ (by first | decide | exact sz_1 (by assumption) | exact sz_l (by decide) (by assumption) | exact sz_r (by assumption) (by decide) | exact sz_3 (by decide) (by assumption) (by decide) | exact sz_t (by assumption) (by assumption) | omega)).mono ?_); rintro e w4 ⟨rfl, hP4, hK4⟩; have hb4 := hid' (hK4.box hb3.out); obtain ⟨y40, y41, y42, y43, y44, y45⟩ := box_cells hb4.out; replace hP4 := hid' hP4; replace hK4 := hid' (hK3.out.trans hK4))
    | (go_at_call 62; (with_reducible refine (hA1 _ _ hP2.out).mono ?_); rintro e w3 ⟨rfl, hP3, hK3⟩; have hb3 := hid' (hK3.box hb2.out); obtain ⟨y30, y31, y32, y33, y34, y35⟩ := box_cells hb3.out; replace hP3 := hid' hP3; replace hK3 := hid' (hK2.out.trans hK3))
    | (go_at_call 59; (with_reducible refine (put59 hP1.out _ (by first | decide | exact sz_1 (by assumption) | exact sz_l (by decide) (by assumption) | exact sz_r (by assumption) (by decide) | exact sz_3 (by decide) (by assumption) (by decide) | exact sz_t (by assumption) (by assumption) | omega)).mono ?_); rintro e w2 ⟨rfl, hP2, hK2⟩; have hb2 := hid' (hK2.box hb1.out); obtain ⟨y20, y21, y22, y23, y24, y25⟩ := box_cells hb2.out; have hl2 : b0 < w2.heap.size := Nat.lt_of_lt_of_le hlt hP2.bel.size; obtain ⟨d210, d211, d212, d213, d214, d215⟩ := HC1.out w2 hP2.bel; (try simp only [Nat.zero_mul, Nat.add_zero, Nat.one_mul, Nat.reduceMul, Nat.add_assoc, Nat.reduceAdd] at d210 d211 d212 d213 d214 d215); replace hP2 := hid' hP2; replace hK2 := hid' (hK1.out.trans hK2))
    | (go_at_call 62; (with_reducible refine (hA0 _ _ hP0.out).mono ?_); rintro e w1 ⟨rfl, hP1, hK1⟩; have hb1 := hid' (hK1.box hb0.out); obtain ⟨y10, y11, y12, y13, y14, y15⟩ := box_cells hb1.out; replace hP1 := hid' hP1; replace hK1 := hid' (hK0.out.trans hK1)))
  go_end0
  refine ⟨rfl, hP4.out.cast ?_, hK4.out⟩
  simp [lst_app, lst_lit, List.append_assoc]

set_option maxHeartbeats 8000000 in
set_option maxRecDepth 20000 in
theorem ex94_6 {w0 : World} {tb : Nat} {str : ByteArray} {num pos : Int} {flag : Bool} {b0 o0 kn kc : Nat} (hlt : b0 < w0.heap.size) (hs : str.size ≤ 1048576) {t0 : Tr} {x0 : NdH} {kv0 : Value} (hc0 : NdAt w0 b0 (o0 + 0 * 6) x0 kv0){A0 : List UInt8} (hA0 : ExAt w0 tb x0 kv0 13 A0) :
    Ex 94 w0 tb ⟨6, str, num, flag, pos⟩ (.slice (some ⟨b0, o0, none⟩) 1 kc) (A0 ++ ([46] ++ lst str)) := fun F W hP => by
  have hP0 := hid' (hP.box (.cells #[.int .i64 6, .string str, .int .u32 num, .bool flag, .slice (some ⟨b0, o0, none⟩) 1 kc, .int .i64 pos] 25))
  have hb0 := hid' (heap_alloc_new W (.cells #[.int .i64 6, .string str, .int .u32 num, .bool flag, .slice (some ⟨b0, o0, none⟩) 1 kc, .int .i64 pos] 25))
  have hK0 : Hid (KT w0.heap.size W (W.alloc (.cells #[.int .i64 6, .string str, .int .u32 num, .bool flag, .slice (some ⟨b0, o0, none⟩) 1 kc, .int .i64 pos] 25))) := KT.of_below (below1 _ _)
  have hlW : b0 < W.heap.size := Nat.lt_of_lt_of_le hlt hP.bel.size
  have HC0 : Hid (∀ W', Below w0.heap.size w0 W' → NdAt W' b0 (o0 + 0 * 6) x0 kv0) := fun W' hb => nd_below hc0 hb hlt
  obtain ⟨c00, c01, c02, c03, c04, c05⟩ := HC0.out W hP.bel
  clear hc0
  clear hP
  try unfold Ex at *
  try unfold ExAt at *
  unfold ndV at *
  try simp only [Nat.zero_mul, Nat.add_zero, Nat.one_mul, Nat.reduceMul, Nat.add_assoc, Nat.reduceAdd] at c00 c01 c02 c03 c04 c05
  go_enter Tryz.func94, Tryz.ntmps94
  go_wp2_with (first
    | (go_at_call 59; (with_reducible refine (put59 hP1.out _ (by first | decide | exact sz_1 (by assumption) | exact sz_l (by decide) (by assumption) | exact sz_r (by assumption) (by decide) | exact sz_3 (by decide) (by assumption) (by decide) | exact sz_t (by assumption) (by assumption) | omega)).mono ?_); rintro e w2 ⟨rfl, hP2, hK2⟩; have hb2 := hid' (hK2.box hb1.out); obtain ⟨y20, y21, y22, y23, y24, y25⟩ := box_cells hb2.out; replace hP2 := hid' hP2; replace hK2 := hid' (hK1.out.trans hK2))
    | (go_at_call 62; (with_reducible refine (hA0 _ _ hP0.out).mono ?_); rintro e w1 ⟨rfl, hP1, hK1⟩; have hb1 := hid' (hK1.box hb0.out); obtain ⟨y10, y11, y12, y13, y14, y15⟩ := box_cells hb1.out; replace hP1 := hid' hP1; replace hK1 := hid' (hK0.out.trans hK1)))
  go_end0
  refine ⟨rfl, hP2.out.cast ?_, hK2.out⟩
  simp [lst_app, lst_lit, List.append_assoc]

set_option maxHeartbeats 8000000 in
set_option maxRecDepth 20000 in
theorem ex94_7 {w0 : World} {tb : Nat} {str : ByteArray} {num pos : Int} {flag : Bool} {b0 o0 kn kc : Nat} (hlt : b0 < w0.heap.size) (hs : str.size ≤ 1048576) {t0 : Tr} {x0 : NdH} {kv0 : Value} (hc0 : NdAt w0 b0 (o0 + 0 * 6) x0 kv0){A0 : List UInt8} (hA0 : ExAt w0 tb x0 kv0 13 A0) :
    Ex 94 w0 tb ⟨7, str, num, flag, pos⟩ (.slice (some ⟨b0, o0, none⟩) 1 kc) (A0 ++ ([45, 62] ++ lst str)) := fun F W hP => by
  have hP0 := hid' (hP.box (.cells #[.int .i64 7, .string str, .int .u32 num, .bool flag, .slice (some ⟨b0, o0, none⟩) 1 kc, .int .i64 pos] 25))
  have hb0 := hid' (heap_alloc_new W (.cells #[.int .i64 7, .string str, .int .u32 num, .bool flag, .slice (some ⟨b0, o0, none⟩) 1 kc, .int .i64 pos] 25))
  have hK0 : Hid (KT w0.heap.size W (W.alloc (.cells #[.int .i64 7, .string str, .int .u32 num, .bool flag, .slice (some ⟨b0, o0, none⟩) 1 kc, .int .i64 pos] 25))) := KT.of_below (below1 _ _)
  have hlW : b0 < W.heap.size := Nat.lt_of_lt_of_le hlt hP.bel.size
  have HC0 : Hid (∀ W', Below w0.heap.size w0 W' → NdAt W' b0 (o0 + 0 * 6) x0 kv0) := fun W' hb => nd_below hc0 hb hlt
  obtain ⟨c00, c01, c02, c03, c04, c05⟩ := HC0.out W hP.bel
  clear hc0
  clear hP
  try unfold Ex at *
  try unfold ExAt at *
  unfold ndV at *
  try simp only [Nat.zero_mul, Nat.add_zero, Nat.one_mul, Nat.reduceMul, Nat.add_assoc, Nat.reduceAdd] at c00 c01 c02 c03 c04 c05
  go_enter Tryz.func94, Tryz.ntmps94
  go_wp2_with (first
    | (go_at_call 59; (with_reducible refine (put59 hP1.out _ (by first | decide | exact sz_1 (by assumption) | exact sz_l (by decide) (by assumption) | exact sz_r (by assumption) (by decide) | exact sz_3 (by decide) (by assumption) (by decide) | exact sz_t (by assumption) (by assumption) | omega)).mono ?_); rintro e w2 ⟨rfl, hP2, hK2⟩; have hb2 := hid' (hK2.box hb1.out); obtain ⟨y20, y21, y22, y23, y24, y25⟩ := box_cells hb2.out; replace hP2 := hid' hP2; replace hK2 := hid' (hK1.out.trans hK2))
    | (go_at_call 62; (with_reducible refine (hA0 _ _ hP0.out).mono ?_); rintro e w1 ⟨rfl, hP1, hK1⟩; have hb1 := hid' (hK1.box hb0.out); obtain ⟨y10, y11, y12, y13, y14, y15⟩ := box_cells hb1.out; replace hP1 := hid' hP1; replace hK1 := hid' (hK0.out.trans hK1)))
  go_end0
  refine ⟨rfl, hP2.out.cast ?_, hK2.out⟩
  simp [lst_app, lst_lit, List.append_assoc]

set_option maxHeartbeats 8000000 in
set_option maxRecDepth 20000 in
theorem ex94_14 {w0 : World} {tb : Nat} {str : ByteArray} {num pos : Int} {flag : Bool} {b0 o0 kn kc : Nat} (hlt : b0 < w0.heap.size) (hs : str.size ≤ 1048576) {t0 : Tr} {x0 : NdH} {kv0 : Value} (hc0 : NdAt w0 b0 (o0 + 0 * 6) x0 kv0) {t1 : Tr} {x1 : NdH} {kv1 : Value} (hc1 : NdAt w0 b0 (o0 + 1 * 6) x1 kv1){A1 : List UInt8} (hs0 : x0.str.size ≤ 1048576) (hA1 : ExAt w0 tb x1 kv1 12 A1) :
    Ex 94 w0 tb ⟨14, str, num, flag, pos⟩ (.slice (some ⟨b0, o0, none⟩) 2 kc) (parenL (lst x0.str) ++ A1) := fun F W hP => by
  have hP0 := hid' (hP.box (.cells #[.int .i64 14, .string str, .int .u32 num, .bool flag, .slice (some ⟨b0, o0, none⟩) 2 kc, .int .i64 pos] 25))
  have hb0 := hid' (heap_alloc_new W (.cells #[.int .i64 14, .string str, .int .u32 num, .bool flag, .slice (some ⟨b0, o0, none⟩) 2 kc, .int .i64 pos] 25))
  have hK0 : Hid (KT w0.heap.size W (W.alloc (.cells #[.int .i64 14, .string str, .int .u32 num, .bool flag, .slice (some ⟨b0, o0, none⟩) 2 kc, .int .i64 pos] 25))) := KT.of_below (below1 _ _)
  have hlW : b0 < W.heap.size := Nat.lt_of_lt_of_le hlt hP.bel.size
  have HC0 : Hid (∀ W', Below w0.heap.size w0 W' → NdAt W' b0 (o0 + 0 * 6) x0 kv0) := fun W' hb => nd_below hc0 hb hlt
  have HC1 : Hid (∀ W', Below w0.heap.size w0 W' → NdAt W' b0 (o0 + 1 * 6) x1 kv1) := fun W' hb => nd_below hc1 hb hlt
  obtain ⟨c00, c01, c02, c03, c04, c05⟩ := HC0.out W hP.bel
  obtain ⟨c10, c11, c12, c13, c14, c15⟩ := HC1.out W hP.bel
  clear hc0
  clear hc1
  clear hP
  try unfold Ex at *
  try unfold ExAt at *
  unfold ndV at *
  try simp only [Nat.zero_mul, Nat.add_zero, Nat.one_mul, Nat.reduceMul, Nat.add_assoc, Nat.reduceAdd] at c00 c01 c02 c03 c04 c05
  try simp only [Nat.zero_mul, Nat.add_zero, Nat.one_mul, Nat.reduceMul, Nat.add_assoc, Nat.reduceAdd] at c10 c11 c12 c13 c14 c15
  go_enter Tryz.func94, Tryz.ntmps94
  go_wp2_with (first
    | (go_at_call 62; (with_reducible refine (hA1 _ _ hP1.out).mono ?_); rintro e w2 ⟨rfl, hP2, hK2⟩; have hb2 := hid' (hK2.box hb1.out); obtain ⟨y20, y21, y22, y23, y24, y25⟩ := box_cells hb2.out; replace hP2 := hid' hP2; replace hK2 := hid' (hK1.out.trans hK2))
    | (go_at_call 59; (with_reducible refine (put59 hP0.out (⟨#[40]⟩ ++ x0.str ++ ⟨#[41]⟩) (by first | decide | exact sz_1 (by assumption) | exact sz_l (by decide) (by assumption) | exact sz_r (by assumption) (by decide) | exact sz_3 (by decide) (by assumption) (by decide) | exact sz_t (by assumption) (by assumption) | omega)).mono ?_); rintro e w1 ⟨rfl, hP1, hK1⟩; have hb1 := hid' (hK1.box hb0.out); obtain ⟨y10, y11, y12, y13, y14, y15⟩ := box_cells hb1.out; have hl1 : b0 < w1.heap.size := Nat.lt_of_lt_of_le hlt hP1.bel.size; obtain ⟨d110, d111, d112, d113, d114, d115⟩ := HC1.out w1 hP1.bel; (try simp only [Nat.zero_mul, Nat.add_zero, Nat.one_mul, Nat.reduceMul, Nat.add_assoc, Nat.reduceAdd] at d110 d111 d112 d113 d114 d115); replace hP1 := hid' hP1; replace hK1 := hid' (hK0.out.trans hK1)))
  go_end0
  refine ⟨rfl, hP2.out.cast ?_, hK2.out⟩
  simp [parenL, lst_app, lst_lit, List.append_assoc]

set_option maxHeartbeats 8000000 in
set_option maxRecDepth 20000 in
theorem ex94_12 {w0 : World} {tb : Nat} {str : ByteArray} {num pos : Int} {flag : Bool} {b0 o0 kn kc : Nat} (hlt : b0 < w0.heap.size) (hs : str.size ≤ 1048576) {t0 : Tr} {x0 : NdH} {kv0 : Value} (hc0 : NdAt w0 b0 (o0 + 0 * 6) x0 kv0) {t1 : Tr} {x1 : NdH} {kv1 : Value} (hc1 : NdAt w0 b0 (o0 + 1 * 6) x1 kv1) {t2 : Tr} {x2 : NdH} {kv2 : Value} (hc2 : NdAt w0 b0 (o0 + 2 * 6) x2 kv2){A0 A1 A2 : List UInt8} (hA0 : ExAt w0 tb x0 kv0 2 A0) (hA1 : ExAt w0 tb x1 kv1 0 A1) (hA2 : ExAt w0 tb x2 kv2 1 A2) :
    Ex 94 w0 tb ⟨12, str, num, flag, pos⟩ (.slice (some ⟨b0, o0, none⟩) 3 kc) (A0 ++ ([32, 63, 32] ++ (A1 ++ ([32, 58, 32] ++ A2)))) := fun F W hP => by
  have hP0 := hid' (hP.box (.cells #[.int .i64 12, .string str, .int .u32 num, .bool flag, .slice (some ⟨b0, o0, none⟩) 3 kc, .int .i64 pos] 25))
  have hb0 := hid' (heap_alloc_new W (.cells #[.int .i64 12, .string str, .int .u32 num, .bool flag, .slice (some ⟨b0, o0, none⟩) 3 kc, .int .i64 pos] 25))
  have hK0 : Hid (KT w0.heap.size W (W.alloc (.cells #[.int .i64 12, .string str, .int .u32 num, .bool flag, .slice (some ⟨b0, o0, none⟩) 3 kc, .int .i64 pos] 25))) := KT.of_below (below1 _ _)
  have hlW : b0 < W.heap.size := Nat.lt_of_lt_of_le hlt hP.bel.size
  have HC0 : Hid (∀ W', Below w0.heap.size w0 W' → NdAt W' b0 (o0 + 0 * 6) x0 kv0) := fun W' hb => nd_below hc0 hb hlt
  have HC1 : Hid (∀ W', Below w0.heap.size w0 W' → NdAt W' b0 (o0 + 1 * 6) x1 kv1) := fun W' hb => nd_below hc1 hb hlt
  have HC2 : Hid (∀ W', Below w0.heap.size w0 W' → NdAt W' b0 (o0 + 2 * 6) x2 kv2) := fun W' hb => nd_below hc2 hb hlt
  obtain ⟨c00, c01, c02, c03, c04, c05⟩ := HC0.out W hP.bel
  obtain ⟨c10, c11, c12, c13, c14, c15⟩ := HC1.out W hP.bel
  obtain ⟨c20, c21, c22, c23, c24, c25⟩ := HC2.out W hP.bel
  clear hc0
  clear hc1
  clear hc2
  clear hP
  try unfold Ex at *
  try unfold ExAt at *
  unfold ndV at *
  try simp only [Nat.zero_mul, Nat.add_zero, Nat.one_mul, Nat.reduceMul, Nat.add_assoc, Nat.reduceAdd] at c00 c01 c02 c03 c04 c05
  try simp only [Nat.zero_mul, Nat.add_zero, Nat.one_mul, Nat.reduceMul, Nat.add_assoc, Nat.reduceAdd] at c10 c11 c12 c13 c14 c15
  try simp only [Nat.zero_mul, Nat.add_zero, Nat.one_mul, Nat.reduceMul, Nat.add_assoc, Nat.reduceAdd] at c20 c21 c22 c23 c24 c25
  go_enter Tryz.func94, Tryz.ntmps94
  go_wp2_with (first
    | (go_at_call 62; (with_reducible refine (hA2 _ _ hP4.out).mono ?_); rintro e w5 ⟨rfl, hP5, hK5⟩; have hb5 := hid' (hK5.box hb4.out); obtain ⟨y50, y51, y52, y53, y54, y55⟩ := box_cells hb5.out; replace hP5 := hid' hP5; replace hK5 := hid' (hK4.out.trans hK5))
    | (go_at_call 59; (with_reducible refine (put59 hP3.out _ (by first | decide | exact sz_1 (by assumption) | exact sz_l (by decide) (by assumption) | exact sz_r (by assumption) (by decide) | exact sz_3 (by decide) (by assumption) (by decide) | exact sz_t (by assumption) (by assumption) | omega)).mono ?_); rintro e w4 ⟨rfl, hP4, hK4⟩; have hb4 := hid' (hK4.box hb3.out); obtain ⟨y40, y41, y42, y43, y44, y45⟩ := box_cells hb4.out; have hl4 : b0 < w4.heap.size := Nat.lt_of_lt_of_le hlt hP4.bel.size; obtain ⟨d420, d421, d422, d423, d424, d425⟩ := HC2.out w4 hP4.bel; (try simp only [Nat.zero_mul, Nat.add_zero, Nat.one_mul, Nat.reduceMul, Nat.add_assoc, Nat.reduceAdd] at d420 d421 d422 d423 d424 d425); replace hP4 := hid' hP4; replace hK4 := hid' (hK3.out.trans hK4))
    | (go_at_call 62; (with_reducible refine (hA1 _ _ hP2.out).mono ?_); rintro e w3 ⟨rfl, hP3, hK3⟩; have hb3 := hid' (hK3.box hb2.out); obtain ⟨y30, y31, y32, y33, y34, y35⟩ := box_cells hb3.out; replace hP3 := hid' hP3; replace hK3 := hid' (hK2.out.trans hK3))
    | (go_at_call 59; (with_reducible refine (put59 hP1.out _ (by first | decide | exact sz_1 (by assumption) | exact sz_l (by decide) (by assumption) | exact sz_r (by assumption) (by decide) | exact sz_3 (by decide) (by assumption) (by decide) | exact sz_t (by assumption) (by assumption) | omega)).mono ?_); rintro e w2 ⟨rfl, hP2, hK2⟩; have hb2 := hid' (hK2.box hb1.out); obtain ⟨y20, y21, y22, y23, y24, y25⟩ := box_cells hb2.out; have hl2 : b0 < w2.heap.size := Nat.lt_of_lt_of_le hlt hP2.bel.size; obtain ⟨d210, d211, d212, d213, d214, d215⟩ := HC1.out w2 hP2.bel; (try simp only [Nat.zero_mul, Nat.add_zero, Nat.one_mul, Nat.reduceMul, Nat.add_assoc, Nat.reduceAdd] at d210 d211 d212 d213 d214 d215); replace hP2 := hid' hP2; replace hK2 := hid' (hK1.out.trans hK2))
    | (go_at_call 62; (with_reducible refine (hA0 _ _ hP0.out).mono ?_); rintro e w1 ⟨rfl, hP1, hK1⟩; have hb1 := hid' (hK1.box hb0.out); obtain ⟨y10, y11, y12, y13, y14, y15⟩ := box_cells hb1.out; replace hP1 := hid' hP1; replace hK1 := hid' (hK0.out.trans hK1)))
  go_end0
  refine ⟨rfl, hP5.out.cast ?_, hK5.out⟩
  simp [lst_app, lst_lit, List.append_assoc]

set_option maxHeartbeats 8000000 in
set_option maxRecDepth 20000 in
theorem ex94_13 {w0 : World} {tb : Nat} {str : ByteArray} {num pos : Int} {flag : Bool} {b0 o0 kn kc : Nat} (hlt : b0 < w0.heap.size) (hs : str.size ≤ 1048576) {t0 : Tr} {x0 : NdH} {kv0 : Value} (hc0 : NdAt w0 b0 (o0 + 0 * 6) x0 kv0) {t1 : Tr} {x1 : NdH} {kv1 : Value} (hc1 : NdAt w0 b0 (o0 + 1 * 6) x1 kv1){A0 A1 : List UInt8} (hA0 : ExAt w0 tb x0 kv0 13 A0) (hA1 : ExAt w0 tb x1 kv1 0 A1) :
    Ex 94 w0 tb ⟨13, str, num, flag, pos⟩ (.slice (some ⟨b0, o0, none⟩) 2 kc) (A0 ++ ([32] ++ (lst str ++ ([32] ++ A1)))) := fun F W hP => by
  have hP0 := hid' (hP.box (.cells #[.int .i64 13, .string str, .int .u32 num, .bool flag, .slice (some ⟨b0, o0, none⟩) 2 kc, .int .i64 pos] 25))
  have hb0 := hid' (heap_alloc_new W (.cells #[.int .i64 13, .string str, .int .u32 num, .bool flag, .slice (some ⟨b0, o0, none⟩) 2 kc, .int .i64 pos] 25))
  have hK0 : Hid (KT w0.heap.size W (W.alloc (.cells #[.int .i64 13, .string str, .int .u32 num, .bool flag, .slice (some ⟨b0, o0, none⟩) 2 kc, .int .i64 pos] 25))) := KT.of_below (below1 _ _)
  have hlW : b0 < W.heap.size := Nat.lt_of_lt_of_le hlt hP.bel.size
  have HC0 : Hid (∀ W', Below w0.heap.size w0 W' → NdAt W' b0 (o0 + 0 * 6) x0 kv0) := fun W' hb => nd_below hc0 hb hlt
  have HC1 : Hid (∀ W', Below w0.heap.size w0 W' → NdAt W' b0 (o0 + 1 * 6) x1 kv1) := fun W' hb => nd_below hc1 hb hlt
  obtain ⟨c00, c01, c02, c03, c04, c05⟩ := HC0.out W hP.bel
  obtain ⟨c10, c11, c12, c13, c14, c15⟩ := HC1.out W hP.bel
  clear hc0
  clear hc1
  clear hP
  try unfold Ex at *
  try unfold ExAt at *
  unfold ndV at *
  try simp only [Nat.zero_mul, Nat.add_zero, Nat.one_mul, Nat.reduceMul, Nat.add_assoc, Nat.reduceAdd] at c00 c01 c02 c03 c04 c05
  try simp only [Nat.zero_mul, Nat.add_zero, Nat.one_mul, Nat.reduceMul, Nat.add_assoc, Nat.reduceAdd] at c10 c11 c12 c13 c14 c15
  go_enter Tryz.func94, Tryz.ntmps94
  go_wp2_with (first
    | (go_at_call 62; (with_reducible refine (hA1 _ _ hP2.out).mono ?_); rintro e w3 ⟨rfl, hP3, hK3⟩; have hb3 := hid' (hK3.box hb2.out); obtain ⟨y30, y31, y32, y33, y34, y35⟩ := box_cells hb3.out; replace hP3 := hid' hP3; replace hK3 := hid' (hK2.out.trans hK3))
    | (go_at_call 59; (with_reducible refine (put59 hP1.out _ (by first | decide | exact sz_1 (by assumption) | exact sz_l (by decide) (by assumption) | exact sz_r (by assumption) (by decide) | exact sz_3 (by decide) (by assumption) (by decide) | exact sz_t (by assumption) (by assumption) | omega)).mono ?_); rintro e w2 ⟨rfl, hP2, hK2⟩; have hb2 := hid' (hK2.box hb1.out); obtain ⟨y20, y21, y22, y23, y24, y25⟩ := box_cells hb2.out; have hl2 : b0 < w2.heap.size := Nat.lt_of_lt_of_le hlt hP2.bel.size; obtain ⟨d210, d211, d212, d213, d214, d215⟩ := HC1.out w2 hP2.bel; (try simp only [Nat.zero_mul, Nat.add_zero, Nat.one_mul, Nat.reduceMul, Nat.add_assoc, Nat.reduceAdd] at d210 d211 d212 d213 d214 d215); replace hP2 := hid' hP2; replace hK2 := hid' (hK1.out.trans hK2))
    | (go_at_call 62; (with_reducible refine (hA0 _ _ hP0.out).mono ?_); rintro e w1 ⟨rfl, hP1, hK1⟩; have hb1 := hid' (hK1.box hb0.out); obtain ⟨y10, y11, y12, y13, y14, y15⟩ := box_cells hb1.out; replace hP1 := hid' hP1; replace hK1 := hid' (hK0.out.trans hK1)))
  go_end0
  refine ⟨rfl, hP3.out.cast ?_, hK3.out⟩
  simp [lst_app, lst_lit, List.append_assoc]

end Go.Proofs.YtnnnfabpceapcaaGreatDoor

namespace Go.Proofs.YtnnnfabpceapcaaGreatDoor
set_option linter.unusedSimpArgs false
open Go.RowKit
set_option linter.unusedVariables false
set_option linter.unusedSimpArgs false

set_option maxHeartbeats 8000000 in
set_option maxRecDepth 20000 in
theorem sz112_16 {w0 : World} {tb : Nat} {str : ByteArray} {num pos : Int} {flag : Bool} {ka : Option Addr} {kn kc : Nat} (hs : str.size ≤ 1048576) :
    Ex 112 w0 tb ⟨16, str, num, flag, pos⟩ (.slice (ka) kn kc) ([115, 105, 122, 101, 111, 102] ++ parenL (lst str)) := fun F W hP => by
  have hP0 := hid' (hP.box (.cells #[.int .i64 16, .string str, .int .u32 num, .bool flag, .slice (ka) kn kc, .int .i64 pos] 25))
  have hb0 := hid' (heap_alloc_new W (.cells #[.int .i64 16, .string str, .int .u32 num, .bool flag, .slice (ka) kn kc, .int .i64 pos] 25))
  have hK0 : Hid (KT w0.heap.size W (W.alloc (.cells #[.int .i64 16, .string str, .int .u32 num, .bool flag, .slice (ka) kn kc, .int .i64 pos] 25))) := KT.of_below (below1 _ _)
  clear hP
  try unfold Ex at *
  try unfold ExAt at *
  unfold ndV at *
  go_enter Tryz.func112, Tryz.ntmps112
  go_wp2_with (first
    | (go_at_call 59; (with_reducible refine (put59 hP0.out _ (by first | decide | exact sz_1 (by assumption) | exact sz_l (by decide) (by assumption) | exact sz_r (by assumption) (by decide) | exact sz_3 (by decide) (by assumption) (by decide) | exact sz_t (by assumption) (by assumption) | omega)).mono ?_); rintro e w1 ⟨rfl, hP1, hK1⟩; have hb1 := hid' (hK1.box hb0.out); obtain ⟨y10, y11, y12, y13, y14, y15⟩ := box_cells hb1.out; replace hP1 := hid' hP1; replace hK1 := hid' (hK0.out.trans hK1)))
  go_end0
  refine ⟨rfl, hP1.out.cast ?_, hK1.out⟩
  simp [parenL, lst_app, lst_lit, List.append_assoc]

set_option maxHeartbeats 8000000 in
set_option maxRecDepth 20000 in
theorem sz112_14 {w0 : World} {tb : Nat} {str : ByteArray} {num pos : Int} {flag : Bool} {ka : Option Addr} {kn kc : Nat} (hs : str.size ≤ 1048576){S : List UInt8} (hE : Ex 94 w0 tb ⟨14, str, num, flag, pos⟩ (.slice ka kn kc) S) :
    Ex 112 w0 tb ⟨14, str, num, flag, pos⟩ (.slice (ka) kn kc) ([115, 105, 122, 101, 111, 102] ++ ([32] ++ parenL S)) := fun F W hP => by
  have hP0 := hid' (hP.box (.cells #[.int .i64 14, .string str, .int .u32 num, .bool flag, .slice (ka) kn kc, .int .i64 pos] 25))
  have hb0 := hid' (heap_alloc_new W (.cells #[.int .i64 14, .string str, .int .u32 num, .bool flag, .slice (ka) kn kc, .int .i64 pos] 25))
  have hK0 : Hid (KT w0.heap.size W (W.alloc (.cells #[.int .i64 14, .string str, .int .u32 num, .bool flag, .slice (ka) kn kc, .int .i64 pos] 25))) := KT.of_below (below1 _ _)
  clear hP
  try unfold Ex at *
  try unfold ExAt at *
  unfold ndV at *
  go_enter Tryz.func112, Tryz.ntmps112
  go_wp2_with (first
    | (go_at_call 59; (with_reducible refine (put59 hP2.out _ (by first | decide | exact sz_1 (by assumption) | exact sz_l (by decide) (by assumption) | exact sz_r (by assumption) (by decide) | exact sz_3 (by decide) (by assumption) (by decide) | exact sz_t (by assumption) (by assumption) | omega)).mono ?_); rintro e w3 ⟨rfl, hP3, hK3⟩; have hb3 := hid' (hK3.box hb2.out); obtain ⟨y30, y31, y32, y33, y34, y35⟩ := box_cells hb3.out; replace hP3 := hid' hP3; replace hK3 := hid' (hK2.out.trans hK3))
    | (go_at_call 94; (with_reducible refine (hE _ _ hP1.out).mono ?_); rintro e w2 ⟨rfl, hP2, hK2⟩; have hb2 := hid' (hK2.box hb1.out); obtain ⟨y20, y21, y22, y23, y24, y25⟩ := box_cells hb2.out; replace hP2 := hid' hP2; replace hK2 := hid' (hK1.out.trans hK2))
    | (go_at_call 59; (with_reducible refine (put59 hP0.out _ (by first | decide | exact sz_1 (by assumption) | exact sz_l (by decide) (by assumption) | exact sz_r (by assumption) (by decide) | exact sz_3 (by decide) (by assumption) (by decide) | exact sz_t (by assumption) (by assumption) | omega)).mono ?_); rintro e w1 ⟨rfl, hP1, hK1⟩; have hb1 := hid' (hK1.box hb0.out); obtain ⟨y10, y11, y12, y13, y14, y15⟩ := box_cells hb1.out; replace hP1 := hid' hP1; replace hK1 := hid' (hK0.out.trans hK1)))
  go_end0
  refine ⟨rfl, hP3.out.cast ?_, hK3.out⟩
  simp [parenL, lst_app, lst_lit, List.append_assoc]

set_option maxHeartbeats 8000000 in
set_option maxRecDepth 20000 in
theorem sz112_o {w0 : World} {tb : Nat} {str : ByteArray} {num pos : Int} {flag : Bool} {ka : Option Addr} {kn kc : Nat} (hs : str.size ≤ 1048576){kind : Int} {A : List UInt8} (h16 : ¬ kind = 16) (h14 : ¬ kind = 14) (hA : ExAt w0 tb ⟨kind, str, num, flag, pos⟩ (.slice ka kn kc) 12 A) :
    Ex 112 w0 tb ⟨kind, str, num, flag, pos⟩ (.slice (ka) kn kc) ([115, 105, 122, 101, 111, 102] ++ ([32] ++ A)) := fun F W hP => by
  have hP0 := hid' (hP.box (.cells #[.int .i64 kind, .string str, .int .u32 num, .bool flag, .slice (ka) kn kc, .int .i64 pos] 25))
  have hb0 := hid' (heap_alloc_new W (.cells #[.int .i64 kind, .string str, .int .u32 num, .bool flag, .slice (ka) kn kc, .int .i64 pos] 25))
  have hK0 : Hid (KT w0.heap.size W (W.alloc (.cells #[.int .i64 kind, .string str, .int .u32 num, .bool flag, .slice (ka) kn kc, .int .i64 pos] 25))) := KT.of_below (below1 _ _)
  clear hP
  try unfold Ex at *
  try unfold ExAt at *
  unfold ndV at *
  go_enter Tryz.func112, Tryz.ntmps112
  go_wp2_with (first
    | (go_at_call 62; (with_reducible refine (hA _ _ hP1.out).mono ?_); rintro e w2 ⟨rfl, hP2, hK2⟩; have hb2 := hid' (hK2.box hb1.out); obtain ⟨y20, y21, y22, y23, y24, y25⟩ := box_cells hb2.out; replace hP2 := hid' hP2; replace hK2 := hid' (hK1.out.trans hK2))
    | (go_at_call 59; (with_reducible refine (put59 hP0.out _ (by first | decide | exact sz_1 (by assumption) | exact sz_l (by decide) (by assumption) | exact sz_r (by assumption) (by decide) | exact sz_3 (by decide) (by assumption) (by decide) | exact sz_t (by assumption) (by assumption) | omega)).mono ?_); rintro e w1 ⟨rfl, hP1, hK1⟩; have hb1 := hid' (hK1.box hb0.out); obtain ⟨y10, y11, y12, y13, y14, y15⟩ := box_cells hb1.out; replace hP1 := hid' hP1; replace hK1 := hid' (hK0.out.trans hK1)))
  go_end0
  refine ⟨rfl, hP2.out.cast ?_, hK2.out⟩
  simp [lst_app, lst_lit, List.append_assoc]

set_option maxHeartbeats 8000000 in
set_option maxRecDepth 20000 in
theorem ex94_15 {w0 : World} {tb : Nat} {str : ByteArray} {num pos : Int} {flag : Bool} {b0 o0 kn kc : Nat} (hlt : b0 < w0.heap.size) (hs : str.size ≤ 1048576) {t0 : Tr} {x0 : NdH} {kv0 : Value} (hc0 : NdAt w0 b0 (o0 + 0 * 6) x0 kv0){A0 : List UInt8} (hS0 : Ex 112 w0 tb x0 kv0 A0) :
    Ex 94 w0 tb ⟨15, str, num, flag, pos⟩ (.slice (some ⟨b0, o0, none⟩) 1 kc) (A0) := fun F W hP => by
  have hP0 := hid' (hP.box (.cells #[.int .i64 15, .string str, .int .u32 num, .bool flag, .slice (some ⟨b0, o0, none⟩) 1 kc, .int .i64 pos] 25))
  have hb0 := hid' (heap_alloc_new W (.cells #[.int .i64 15, .string str, .int .u32 num, .bool flag, .slice (some ⟨b0, o0, none⟩) 1 kc, .int .i64 pos] 25))
  have hK0 : Hid (KT w0.heap.size W (W.alloc (.cells #[.int .i64 15, .string str, .int .u32 num, .bool flag, .slice (some ⟨b0, o0, none⟩) 1 kc, .int .i64 pos] 25))) := KT.of_below (below1 _ _)
  have hlW : b0 < W.heap.size := Nat.lt_of_lt_of_le hlt hP.bel.size
  have HC0 : Hid (∀ W', Below w0.heap.size w0 W' → NdAt W' b0 (o0 + 0 * 6) x0 kv0) := fun W' hb => nd_below hc0 hb hlt
  obtain ⟨c00, c01, c02, c03, c04, c05⟩ := HC0.out W hP.bel
  clear hc0
  clear hP
  try unfold Ex at *
  try unfold ExAt at *
  unfold ndV at *
  try simp only [Nat.zero_mul, Nat.add_zero, Nat.one_mul, Nat.reduceMul, Nat.add_assoc, Nat.reduceAdd] at c00 c01 c02 c03 c04 c05
  go_enter Tryz.func94, Tryz.ntmps94
  go_wp2_with (first
    | (go_at_call 112; (with_reducible refine (hS0 _ _ hP0.out).mono ?_); rintro e w1 ⟨rfl, hP1, hK1⟩; have hb1 := hid' (hK1.box hb0.out); obtain ⟨y10, y11, y12, y13, y14, y15⟩ := box_cells hb1.out; replace hP1 := hid' hP1; replace hK1 := hid' (hK0.out.trans hK1)))
  go_end0
  refine ⟨rfl, hP1.out.cast ?_, hK1.out⟩
  rfl

set_option maxHeartbeats 8000000 in
set_option maxRecDepth 20000 in
theorem ex94_9_k {w0 : World} {tb : Nat} {str : ByteArray} {num pos : Int} {flag : Bool} {b0 o0 kc : Nat} (hlt : b0 < w0.heap.size) (hs : str.size ≤ 1048576) {t0 : Tr} {x0 : NdH} {kv0 : Value} (hc0 : NdAt w0 b0 (o0 + 0 * 6) x0 kv0){A0 : List UInt8} (hA0 : ExAt w0 tb x0 kv0 12 A0) (h9 : ¬ x0.kind = 9) :
    Ex 94 w0 tb ⟨9, str, num, flag, pos⟩ (.slice (some ⟨b0, o0, none⟩) 1 kc) (lst str ++ A0) := fun F W hP => by
  have hP0 := hid' (hP.box (.cells #[.int .i64 9, .string str, .int .u32 num, .bool flag, .slice (some ⟨b0, o0, none⟩) 1 kc, .int .i64 pos] 25))
  have hb0 := hid' (heap_alloc_new W (.cells #[.int .i64 9, .string str, .int .u32 num, .bool flag, .slice (some ⟨b0, o0, none⟩) 1 kc, .int .i64 pos] 25))
  have hK0 : Hid (KT w0.heap.size W (W.alloc (.cells #[.int .i64 9, .string str, .int .u32 num, .bool flag, .slice (some ⟨b0, o0, none⟩) 1 kc, .int .i64 pos] 25))) := KT.of_below (below1 _ _)
  have HC0 : Hid (∀ W', Below w0.heap.size w0 W' → NdAt W' b0 o0 x0 kv0) := fun W' hb => nd_below hc0 hb hlt
  clear hc0 hP
  try unfold Ex at *
  try unfold ExAt at *
  unfold ndV at *
  have h9b : (x0.kind == 9) = false := by rw [beq_eq_false_iff_ne]; exact h9
  go_enter Tryz.func94, Tryz.ntmps94
  go_wp2_with (go_at_call 59; (with_reducible refine (put59 hP0.out _ (by first | decide | exact sz_1 (by assumption) | exact sz_l (by decide) (by assumption) | exact sz_r (by assumption) (by decide) | exact sz_3 (by decide) (by assumption) (by decide) | exact sz_t (by assumption) (by assumption) | omega)).mono ?_); rintro e w1 ⟨rfl, hP1, hK1⟩; have hb1 := hid' (hK1.box hb0.out); replace hP1 := hid' hP1; replace hK1 := hid' (hK0.out.trans hK1))
  obtain ⟨y0, y1, y2, y3, y4, y5⟩ := box_cells hb1.out
  obtain ⟨c0, c1, c2, c3, c4, c5⟩ := HC0.out w1 hP1.out.bel
  skip
  have i0 : (0 : Int) < ((1 : Nat) : Int) := by decide
  go_quiet (fail)
  have hD : Below w1.heap.size w1 (w1.drewN nq) := ⟨rfl, rfl, rfl, Nat.le_refl _, fun _ _ => rfl⟩
  have hP2 := hid' (hP1.out.below hD)
  have hK2 := hid' (hK1.out.trans (KT.of_below hD))
  have hb2 := hid' ((KT.of_below (B := w0.heap.size) hD).box hb1.out)
  clear hP1 hK1 hb1 y0 y1 y2 y3 y4 y5 c0 c1 c2 c3 c4 c5 hD
  generalize w1.drewN nq = w2 at *
  obtain ⟨y0, y1, y2, y3, y4, y5⟩ := box_cells hb2.out
  obtain ⟨c0, c1, c2, c3, c4, c5⟩ := HC0.out w2 hP2.out.bel
  have hl2 : b0 < w2.heap.size := Nat.lt_of_lt_of_le hlt hP2.out.bel.size
  go_wp2_with (go_at_call 62; (with_reducible refine (hA0 _ _ hP2.out).mono ?_); rintro e w4 ⟨rfl, hP4, hK4⟩; replace hP4 := hid' hP4; replace hK4 := hid' (hK2.out.trans hK4))
  go_end0
  refine ⟨rfl, hP4.out.cast ?_, hK4.out⟩
  simp [lst_app, lst_lit, List.append_assoc]

set_option maxHeartbeats 8000000 in
set_option maxRecDepth 20000 in
theorem ex94_9_s {w0 : World} {tb : Nat} {str : ByteArray} {num pos : Int} {flag : Bool} {b0 o0 kc : Nat} (hlt : b0 < w0.heap.size) (hs : str.size ≤ 1048576) {t0 : Tr} {x0 : NdH} {kv0 : Value} (hc0 : NdAt w0 b0 (o0 + 0 * 6) x0 kv0){A0 : List UInt8} (hA0 : ExAt w0 tb x0 kv0 12 A0) (h9 : x0.kind = 9) (hne : ¬ x0.str = str) :
    Ex 94 w0 tb ⟨9, str, num, flag, pos⟩ (.slice (some ⟨b0, o0, none⟩) 1 kc) (lst str ++ A0) := fun F W hP => by
  have hP0 := hid' (hP.box (.cells #[.int .i64 9, .string str, .int .u32 num, .bool flag, .slice (some ⟨b0, o0, none⟩) 1 kc, .int .i64 pos] 25))
  have hb0 := hid' (heap_alloc_new W (.cells #[.int .i64 9, .string str, .int .u32 num, .bool flag, .slice (some ⟨b0, o0, none⟩) 1 kc, .int .i64 pos] 25))
  have hK0 : Hid (KT w0.heap.size W (W.alloc (.cells #[.int .i64 9, .string str, .int .u32 num, .bool flag, .slice (some ⟨b0, o0, none⟩) 1 kc, .int .i64 pos] 25))) := KT.of_below (below1 _ _)
  have HC0 : Hid (∀ W', Below w0.heap.size w0 W' → NdAt W' b0 o0 x0 kv0) := fun W' hb => nd_below hc0 hb hlt
  clear hc0 hP
  try unfold Ex at *
  try unfold ExAt at *
  unfold ndV at *
  obtain ⟨k0, s0, m0, f0, q0⟩ := x0
  dsimp only at *
  subst h9
  have hne2 : (s0.toList == str.toList) = false := by rw [ByteArray.toList_eq, ByteArray.toList_eq]; refine beq_eq_false_iff_ne.2 (fun e => hne ?_); exact lst_eq_of e
  go_enter Tryz.func94, Tryz.ntmps94
  go_wp2_with (go_at_call 59; (with_reducible refine (put59 hP0.out _ (by first | decide | exact sz_1 (by assumption) | exact sz_l (by decide) (by assumption) | exact sz_r (by assumption) (by decide) | exact sz_3 (by decide) (by assumption) (by decide) | exact sz_t (by assumption) (by assumption) | omega)).mono ?_); rintro e w1 ⟨rfl, hP1, hK1⟩; have hb1 := hid' (hK1.box hb0.out); replace hP1 := hid' hP1; replace hK1 := hid' (hK0.out.trans hK1))
  obtain ⟨y0, y1, y2, y3, y4, y5⟩ := box_cells hb1.out
  obtain ⟨c0, c1, c2, c3, c4, c5⟩ := HC0.out w1 hP1.out.bel
  skip
  have i0 : (0 : Int) < ((1 : Nat) : Int) := by decide
  go_quiet (fail)
  have hD : Below w1.heap.size w1 (w1.drewN nq) := ⟨rfl, rfl, rfl, Nat.le_refl _, fun _ _ => rfl⟩
  have hP2 := hid' (hP1.out.below hD)
  have hK2 := hid' (hK1.out.trans (KT.of_below hD))
  have hb2 := hid' ((KT.of_below (B := w0.heap.size) hD).box hb1.out)
  clear hP1 hK1 hb1 y0 y1 y2 y3 y4 y5 c0 c1 c2 c3 c4 c5 hD
  generalize w1.drewN nq = w2 at *
  obtain ⟨y0, y1, y2, y3, y4, y5⟩ := box_cells hb2.out
  obtain ⟨c0, c1, c2, c3, c4, c5⟩ := HC0.out w2 hP2.out.bel
  have hl2 : b0 < w2.heap.size := Nat.lt_of_lt_of_le hlt hP2.out.bel.size
  go_wp2_with (go_at_call 62; (with_reducible refine (hA0 _ _ hP2.out).mono ?_); rintro e w4 ⟨rfl, hP4, hK4⟩; replace hP4 := hid' hP4; replace hK4 := hid' (hK2.out.trans hK4))
  go_end0
  refine ⟨rfl, hP4.out.cast ?_, hK4.out⟩
  simp [lst_app, lst_lit, List.append_assoc]

set_option maxHeartbeats 8000000 in
set_option maxRecDepth 20000 in
theorem ex94_9_y {w0 : World} {tb : Nat} {str : ByteArray} {num pos : Int} {flag : Bool} {b0 o0 kc : Nat} (hlt : b0 < w0.heap.size) (hs : str.size ≤ 1048576) {t0 : Tr} {x0 : NdH} {kv0 : Value} (hc0 : NdAt w0 b0 (o0 + 0 * 6) x0 kv0){A0 : List UInt8} (hA0 : ExAt w0 tb x0 kv0 12 A0) (h9 : x0.kind = 9) (he : x0.str = str) :
    Ex 94 w0 tb ⟨9, str, num, flag, pos⟩ (.slice (some ⟨b0, o0, none⟩) 1 kc) (lst str ++ ([32] ++ A0)) := fun F W hP => by
  have hP0 := hid' (hP.box (.cells #[.int .i64 9, .string str, .int .u32 num, .bool flag, .slice (some ⟨b0, o0, none⟩) 1 kc, .int .i64 pos] 25))
  have hb0 := hid' (heap_alloc_new W (.cells #[.int .i64 9, .string str, .int .u32 num, .bool flag, .slice (some ⟨b0, o0, none⟩) 1 kc, .int .i64 pos] 25))
  have hK0 : Hid (KT w0.heap.size W (W.alloc (.cells #[.int .i64 9, .string str, .int .u32 num, .bool flag, .slice (some ⟨b0, o0, none⟩) 1 kc, .int .i64 pos] 25))) := KT.of_below (below1 _ _)
  have HC0 : Hid (∀ W', Below w0.heap.size w0 W' → NdAt W' b0 o0 x0 kv0) := fun W' hb => nd_below hc0 hb hlt
  clear hc0 hP
  try unfold Ex at *
  try unfold ExAt at *
  unfold ndV at *
  obtain ⟨k0, s0, m0, f0, q0⟩ := x0
  dsimp only at *
  subst h9
  subst he
  go_enter Tryz.func94, Tryz.ntmps94
  go_wp2_with (go_at_call 59; (with_reducible refine (put59 hP0.out _ (by first | decide | exact sz_1 (by assumption) | exact sz_l (by decide) (by assumption) | exact sz_r (by assumption) (by decide) | exact sz_3 (by decide) (by assumption) (by decide) | exact sz_t (by assumption) (by assumption) | omega)).mono ?_); rintro e w1 ⟨rfl, hP1, hK1⟩; have hb1 := hid' (hK1.box hb0.out); replace hP1 := hid' hP1; replace hK1 := hid' (hK0.out.trans hK1))
  obtain ⟨y0, y1, y2, y3, y4, y5⟩ := box_cells hb1.out
  obtain ⟨c0, c1, c2, c3, c4, c5⟩ := HC0.out w1 hP1.out.bel
  skip
  have i0 : (0 : Int) < ((1 : Nat) : Int) := by decide
  go_quiet (fail)
  have hD : Below w1.heap.size w1 (w1.drewN nq) := ⟨rfl, rfl, rfl, Nat.le_refl _, fun _ _ => rfl⟩
  have hP2 := hid' (hP1.out.below hD)
  have hK2 := hid' (hK1.out.trans (KT.of_below hD))
  have hb2 := hid' ((KT.of_below (B := w0.heap.size) hD).box hb1.out)
  clear hP1 hK1 hb1 y0 y1 y2 y3 y4 y5 c0 c1 c2 c3 c4 c5 hD
  generalize w1.drewN nq = w2 at *
  obtain ⟨y0, y1, y2, y3, y4, y5⟩ := box_cells hb2.out
  obtain ⟨c0, c1, c2, c3, c4, c5⟩ := HC0.out w2 hP2.out.bel
  have hl2 : b0 < w2.heap.size := Nat.lt_of_lt_of_le hlt hP2.out.bel.size
  go_wp2_with (first
    | (go_at_call 62; (with_reducible refine (hA0 _ _ hP3.out).mono ?_); rintro e w4 ⟨rfl, hP4, hK4⟩; replace hP4 := hid' hP4; replace hK4 := hid' (hK3.out.trans hK4))
    | (go_at_call 59; (with_reducible refine (put59 hP2.out _ (by first | decide | exact sz_1 (by assumption) | exact sz_l (by decide) (by assumption) | exact sz_r (by assumption) (by decide) | exact sz_3 (by decide) (by assumption) (by decide) | exact sz_t (by assumption) (by assumption) | omega)).mono ?_); rintro e w3 ⟨rfl, hP3, hK3⟩; obtain ⟨z0, z1, z2, z3, z4, z5⟩ := box_cells (hK3.box hb2.out); obtain ⟨d0, d1, d2, d3, d4, d5⟩ := HC0.out w3 hP3.bel; have hl3 : b0 < w3.heap.size := Nat.lt_of_lt_of_le hlt hP3.bel.size; replace hP3 := hid' hP3; replace hK3 := hid' (hK2.out.trans hK3)))
  go_end0
  refine ⟨rfl, hP4.out.cast ?_, hK4.out⟩
  simp [lst_app, lst_lit, List.append_assoc]

end Go.Proofs.YtnnnfabpceapcaaGreatDoor

namespace Go.Proofs.YtnnnfabpceapcaaGreatDoor
set_option linter.unusedSimpArgs false
open Go.RowKit
set_option linter.unusedVariables false
set_option linter.unusedSimpArgs false

set_option maxHeartbeats 8000000 in
set_option maxRecDepth 20000 in
theorem ex94_10 {w0 : World} {tb : Nat} {str : ByteArray} {num pos : Int} {flag : Bool} {b0 o0 kc : Nat} (hlt : b0 < w0.heap.size) (hs : str.size ≤ 1048576) {x0 x1 : NdH} {kv0 kv1 : Value} (hc0 : NdAt w0 b0 (o0 + 0 * 6) x0 kv0) (hc1 : NdAt w0 b0 (o0 + 1 * 6) x1 kv1) {A0 A1 : List UInt8} {l : Int} (hl : opF str = l) (hl0 : 0 ≤ l) (hl1 : l ≤ 100) (hA0 : ExAt w0 tb x0 kv0 l A0) (hA1 : ExAt w0 tb x1 kv1 (l + 1) A1) :
    Ex 94 w0 tb ⟨10, str, num, flag, pos⟩ (.slice (some ⟨b0, o0, none⟩) 2 kc) (A0 ++ ([32] ++ (lst str ++ ([32] ++ A1)))) := fun F W hP => by
  obtain ⟨W0, hW0⟩ : ∃ W0, W0 = W.alloc (.cells #[.int .i64 10, .string str, .int .u32 num, .bool flag, .slice (some ⟨b0, o0, none⟩) 2 kc, .int .i64 pos] 25) := ⟨_, rfl⟩
  have hP0 : Hid (Pt w0 tb F W0) := by rw [hW0]; exact hP.box _
  have hb0 : Hid (W0.heap[W.heap.size]? = some (.cells #[.int .i64 10, .string str, .int .u32 num, .bool flag, .slice (some ⟨b0, o0, none⟩) 2 kc, .int .i64 pos] 25 (0, 0))) := by rw [hW0]; exact heap_alloc_new W _
  have hK0 : Hid (KT w0.heap.size W W0) := by rw [hW0]; exact KT.of_below (below1 _ _)
  have HC0 : Hid (∀ W', Below w0.heap.size w0 W' → NdAt W' b0 o0 x0 kv0) := fun W' hb => nd_below hc0 hb hlt
  have HC1 : Hid (∀ W', Below w0.heap.size w0 W' → NdAt W' b0 (o0 + 6) x1 kv1) := fun W' hb => nd_below hc1 hb hlt
  have hop : ∀ W', Calls Tryz.prog 111 #[.string str] W' fun e w' => e = .returned (.int .i64 l) ∧ Below W'.heap.size W' w' := fun W' => (operator111 str W').mono fun e w' ⟨he, hw⟩ => ⟨by rw [he, hl], hw ▸ Below.refl _ _⟩
  have HW := hid' hW0
  clear hc0 hc1 hP hl hW0
  try unfold Ex at *
  try unfold ExAt at *
  unfold ndV at *
  have i0 : (0 : Int) < ((2 : Nat) : Int) := by decide
  have i1 : (1 : Int) < ((2 : Nat) : Int) := by decide
  go_enter Tryz.func94, Tryz.ntmps94
  go_wp2_with fail
  rw [← HW.out]
  have K111 : ∀ t : After W0, _ := fun t => Calls.after t (hop t.1)
  have q0 : ∀ t : After W0, t.1.cell? ⟨W.heap.size, 4, none⟩ = some (.slice (some ⟨b0, o0, none⟩) 2 kc) := fun t => (box_cells ((KT.of_below (B := w0.heap.size) t.2).box hb0.out)).2.2.2.2.1
  have q1 : ∀ t : After W0, t.1.cell? ⟨W.heap.size, 1, none⟩ = some (.string str) := fun t => (box_cells ((KT.of_below (B := w0.heap.size) t.2).box hb0.out)).2.1
  have r0 : ∀ t : After W0, t.1.cell? ⟨b0, o0, none⟩ = some (.int .i64 x0.kind) := fun t => (HC0.out t.1 (below_on hP0.out.bel t.2)).1
  have r1 : ∀ t : After W0, t.1.cell? ⟨b0, o0 + 1, none⟩ = some (.string x0.str) := fun t => (HC0.out t.1 (below_on hP0.out.bel t.2)).2.1
  have r2 : ∀ t : After W0, t.1.cell? ⟨b0, o0 + 2, none⟩ = some (.int .u32 x0.num) := fun t => (HC0.out t.1 (below_on hP0.out.bel t.2)).2.2.1
  have r3 : ∀ t : After W0, t.1.cell? ⟨b0, o0 + 3, none⟩ = some (.bool x0.flag) := fun t => (HC0.out t.1 (below_on hP0.out.bel t.2)).2.2.2.1
  have r4 : ∀ t : After W0, t.1.cell? ⟨b0, o0 + 4, none⟩ = some kv0 := fun t => (HC0.out t.1 (below_on hP0.out.bel t.2)).2.2.2.2.1
  have r5 : ∀ t : After W0, t.1.cell? ⟨b0, o0 + 5, none⟩ = some (.int .i64 x0.pos) := fun t => (HC0.out t.1 (below_on hP0.out.bel t.2)).2.2.2.2.2
  have hne := after_some W0
  refine region_after 8 mixed (by kernel_rfl) ?_
  simp only [List.take_succ_cons, List.take_zero, List.drop_succ_cons, List.drop_zero]
  repeat quiet_step (with_reducible exact K111 _)
  refine wpQuiet_nil ?_
  intro w1 hb1
  have hP1 := hid' (hP0.out.below hb1)
  have hK1 := hid' (hK0.out.trans (KT.of_below hb1))
  have hB1 := hid' ((KT.of_below (B := w0.heap.size) hb1).box hb0.out)
  clear K111 q0 q1 r0 r1 r2 r3 r4 r5 hne hb1
  go_wp2_with (first
    | (go_at_call 59; (with_reducible refine (put59 hP2.out _ (by first | decide | exact sz_1 (by assumption) | exact sz_l (by decide) (by assumption) | exact sz_r (by assumption) (by decide) | exact sz_3 (by decide) (by assumption) (by decide) | exact sz_t (by assumption) (by assumption) | omega)).mono ?_); rintro e w3 ⟨rfl, hP3, hK3⟩; have hB3 := hid' (hK3.box hB2.out); replace hP3 := hid' hP3; replace hK3 := hid' (hK2.out.trans hK3))
    | (go_at_call 62; (with_reducible refine (hA0 _ _ hP1.out).mono ?_); rintro e w2 ⟨rfl, hP2, hK2⟩; have hB2 := hid' (hK2.box hB1.out); obtain ⟨y0, y1, y2, y3, y4, y5⟩ := box_cells hB2.out; replace hP2 := hid' hP2; replace hK2 := hid' (hK1.out.trans hK2)))
  have K111 : ∀ t : After w3, _ := fun t => Calls.after t (hop t.1)
  have q0 : ∀ t : After w3, t.1.cell? ⟨W.heap.size, 4, none⟩ = some (.slice (some ⟨b0, o0, none⟩) 2 kc) := fun t => (box_cells ((KT.of_below (B := w0.heap.size) t.2).box hB3.out)).2.2.2.2.1
  have q1 : ∀ t : After w3, t.1.cell? ⟨W.heap.size, 1, none⟩ = some (.string str) := fun t => (box_cells ((KT.of_below (B := w0.heap.size) t.2).box hB3.out)).2.1
  have r0 : ∀ t : After w3, t.1.cell? ⟨b0, o0 + 6, none⟩ = some (.int .i64 x1.kind) := fun t => (HC1.out t.1 (below_on hP3.out.bel t.2)).1
  have r1 : ∀ t : After w3, t.1.cell? ⟨b0, o0 + 6 + 1, none⟩ = some (.string x1.str) := fun t => (HC1.out t.1 (below_on hP3.out.bel t.2)).2.1
  have r2 : ∀ t : After w3, t.1.cell? ⟨b0, o0 + 6 + 2, none⟩ = some (.int .u32 x1.num) := fun t => (HC1.out t.1 (below_on hP3.out.bel t.2)).2.2.1
  have r3 : ∀ t : After w3, t.1.cell? ⟨b0, o0 + 6 + 3, none⟩ = some (.bool x1.flag) := fun t => (HC1.out t.1 (below_on hP3.out.bel t.2)).2.2.2.1
  have r4 : ∀ t : After w3, t.1.cell? ⟨b0, o0 + 6 + 4, none⟩ = some kv1 := fun t => (HC1.out t.1 (below_on hP3.out.bel t.2)).2.2.2.2.1
  have r5 : ∀ t : After w3, t.1.cell? ⟨b0, o0 + 6 + 5, none⟩ = some (.int .i64 x1.pos) := fun t => (HC1.out t.1 (below_on hP3.out.bel t.2)).2.2.2.2.2
  simp only [Nat.add_assoc, Nat.reduceAdd] at r1 r2 r3 r4 r5
  have hne := after_some w3
  have hwr : IntKind.i64.wrap (l + 1) = l + 1 := by simp [IntKind.wrap, IntKind.bits, IntKind.signed]; omega
  refine region_after 9 mixed (by kernel_rfl) ?_
  simp only [List.take_succ_cons, List.take_zero, List.drop_succ_cons, List.drop_zero]
  repeat quiet_step (with_reducible exact K111 _)
  refine wpQuiet_nil ?_
  intro w4 hb4
  have hP4 := hid' (hP3.out.below hb4)
  have hK4 := hid' (hK3.out.trans (KT.of_below hb4))
  clear K111 q0 q1 r0 r1 r2 r3 r4 r5 hne hb4
  go_wp2_with (go_at_call 62; (with_reducible refine (hA1 _ _ hP4.out).mono ?_); rintro e w5 ⟨rfl, hP5, hK5⟩; replace hP5 := hid' hP5; replace hK5 := hid' (hK4.out.trans hK5))
  go_end0
  refine ⟨rfl, hP5.out.cast ?_, hK5.out⟩
  simp [lst_app, lst_lit, List.append_assoc]

set_option maxHeartbeats 8000000 in
set_option maxRecDepth 20000 in
theorem ex94_11 {w0 : World} {tb : Nat} {str : ByteArray} {num pos : Int} {flag : Bool} {b0 o0 kc : Nat} (hlt : b0 < w0.heap.size) (hs : str.size ≤ 1048576) {x0 x1 : NdH} {kv0 kv1 : Value} (hc0 : NdAt w0 b0 (o0 + 0 * 6) x0 kv0) (hc1 : NdAt w0 b0 (o0 + 1 * 6) x1 kv1) {A0 A1 : List UInt8} {l : Int} (hl : opF str = l) (hl0 : 0 ≤ l) (hl1 : l ≤ 100) (hA0 : ExAt w0 tb x0 kv0 l A0) (hA1 : ExAt w0 tb x1 kv1 (l + 1) A1) :
    Ex 94 w0 tb ⟨11, str, num, flag, pos⟩ (.slice (some ⟨b0, o0, none⟩) 2 kc) (A0 ++ ([32] ++ (lst str ++ ([32] ++ A1)))) := fun F W hP => by
  obtain ⟨W0, hW0⟩ : ∃ W0, W0 = W.alloc (.cells #[.int .i64 11, .string str, .int .u32 num, .bool flag, .slice (some ⟨b0, o0, none⟩) 2 kc, .int .i64 pos] 25) := ⟨_, rfl⟩
  have hP0 : Hid (Pt w0 tb F W0) := by rw [hW0]; exact hP.box _
  have hb0 : Hid (W0.heap[W.heap.size]? = some (.cells #[.int .i64 11, .string str, .int .u32 num, .bool flag, .slice (some ⟨b0, o0, none⟩) 2 kc, .int .i64 pos] 25 (0, 0))) := by rw [hW0]; exact heap_alloc_new W _
  have hK0 : Hid (KT w0.heap.size W W0) := by rw [hW0]; exact KT.of_below (below1 _ _)
  have HC0 : Hid (∀ W', Below w0.heap.size w0 W' → NdAt W' b0 o0 x0 kv0) := fun W' hb => nd_below hc0 hb hlt
  have HC1 : Hid (∀ W', Below w0.heap.size w0 W' → NdAt W' b0 (o0 + 6) x1 kv1) := fun W' hb => nd_below hc1 hb hlt
  have hop : ∀ W', Calls Tryz.prog 111 #[.string str] W' fun e w' => e = .returned (.int .i64 l) ∧ Below W'.heap.size W' w' := fun W' => (operator111 str W').mono fun e w' ⟨he, hw⟩ => ⟨by rw [he, hl], hw ▸ Below.refl _ _⟩
  have HW := hid' hW0
  clear hc0 hc1 hP hl hW0
  try unfold Ex at *
  try unfold ExAt at *
  unfold ndV at *
  have i0 : (0 : Int) < ((2 : Nat) : Int) := by decide
  have i1 : (1 : Int) < ((2 : Nat) : Int) := by decide
  go_enter Tryz.func94, Tryz.ntmps94
  go_wp2_with fail
  rw [← HW.out]
  have K111 : ∀ t : After W0, _ := fun t => Calls.after t (hop t.1)
  have q0 : ∀ t : After W0, t.1.cell? ⟨W.heap.size, 4, none⟩ = some (.slice (some ⟨b0, o0, none⟩) 2 kc) := fun t => (box_cells ((KT.of_below (B := w0.heap.size) t.2).box hb0.out)).2.2.2.2.1
  have q1 : ∀ t : After W0, t.1.cell? ⟨W.heap.size, 1, none⟩ = some (.string str) := fun t => (box_cells ((KT.of_below (B := w0.heap.size) t.2).box hb0.out)).2.1
  have r0 : ∀ t : After W0, t.1.cell? ⟨b0, o0, none⟩ = some (.int .i64 x0.kind) := fun t => (HC0.out t.1 (below_on hP0.out.bel t.2)).1
  have r1 : ∀ t : After W0, t.1.cell? ⟨b0, o0 + 1, none⟩ = some (.string x0.str) := fun t => (HC0.out t.1 (below_on hP0.out.bel t.2)).2.1
  have r2 : ∀ t : After W0, t.1.cell? ⟨b0, o0 + 2, none⟩ = some (.int .u32 x0.num) := fun t => (HC0.out t.1 (below_on hP0.out.bel t.2)).2.2.1
  have r3 : ∀ t : After W0, t.1.cell? ⟨b0, o0 + 3, none⟩ = some (.bool x0.flag) := fun t => (HC0.out t.1 (below_on hP0.out.bel t.2)).2.2.2.1
  have r4 : ∀ t : After W0, t.1.cell? ⟨b0, o0 + 4, none⟩ = some kv0 := fun t => (HC0.out t.1 (below_on hP0.out.bel t.2)).2.2.2.2.1
  have r5 : ∀ t : After W0, t.1.cell? ⟨b0, o0 + 5, none⟩ = some (.int .i64 x0.pos) := fun t => (HC0.out t.1 (below_on hP0.out.bel t.2)).2.2.2.2.2
  have hne := after_some W0
  refine region_after 8 mixed (by kernel_rfl) ?_
  simp only [List.take_succ_cons, List.take_zero, List.drop_succ_cons, List.drop_zero]
  repeat quiet_step (with_reducible exact K111 _)
  refine wpQuiet_nil ?_
  intro w1 hb1
  have hP1 := hid' (hP0.out.below hb1)
  have hK1 := hid' (hK0.out.trans (KT.of_below hb1))
  have hB1 := hid' ((KT.of_below (B := w0.heap.size) hb1).box hb0.out)
  clear K111 q0 q1 r0 r1 r2 r3 r4 r5 hne hb1
  go_wp2_with (first
    | (go_at_call 59; (with_reducible refine (put59 hP2.out _ (by first | decide | exact sz_1 (by assumption) | exact sz_l (by decide) (by assumption) | exact sz_r (by assumption) (by decide) | exact sz_3 (by decide) (by assumption) (by decide) | exact sz_t (by assumption) (by assumption) | omega)).mono ?_); rintro e w3 ⟨rfl, hP3, hK3⟩; have hB3 := hid' (hK3.box hB2.out); replace hP3 := hid' hP3; replace hK3 := hid' (hK2.out.trans hK3))
    | (go_at_call 62; (with_reducible refine (hA0 _ _ hP1.out).mono ?_); rintro e w2 ⟨rfl, hP2, hK2⟩; have hB2 := hid' (hK2.box hB1.out); obtain ⟨y0, y1, y2, y3, y4, y5⟩ := box_cells hB2.out; replace hP2 := hid' hP2; replace hK2 := hid' (hK1.out.trans hK2)))
  have K111 : ∀ t : After w3, _ := fun t => Calls.after t (hop t.1)
  have q0 : ∀ t : After w3, t.1.cell? ⟨W.heap.size, 4, none⟩ = some (.slice (some ⟨b0, o0, none⟩) 2 kc) := fun t => (box_cells ((KT.of_below (B := w0.heap.size) t.2).box hB3.out)).2.2.2.2.1
  have q1 : ∀ t : After w3, t.1.cell? ⟨W.heap.size, 1, none⟩ = some (.string str) := fun t => (box_cells ((KT.of_below (B := w0.heap.size) t.2).box hB3.out)).2.1
  have r0 : ∀ t : After w3, t.1.cell? ⟨b0, o0 + 6, none⟩ = some (.int .i64 x1.kind) := fun t => (HC1.out t.1 (below_on hP3.out.bel t.2)).1
  have r1 : ∀ t : After w3, t.1.cell? ⟨b0, o0 + 6 + 1, none⟩ = some (.string x1.str) := fun t => (HC1.out t.1 (below_on hP3.out.bel t.2)).2.1
  have r2 : ∀ t : After w3, t.1.cell? ⟨b0, o0 + 6 + 2, none⟩ = some (.int .u32 x1.num) := fun t => (HC1.out t.1 (below_on hP3.out.bel t.2)).2.2.1
  have r3 : ∀ t : After w3, t.1.cell? ⟨b0, o0 + 6 + 3, none⟩ = some (.bool x1.flag) := fun t => (HC1.out t.1 (below_on hP3.out.bel t.2)).2.2.2.1
  have r4 : ∀ t : After w3, t.1.cell? ⟨b0, o0 + 6 + 4, none⟩ = some kv1 := fun t => (HC1.out t.1 (below_on hP3.out.bel t.2)).2.2.2.2.1
  have r5 : ∀ t : After w3, t.1.cell? ⟨b0, o0 + 6 + 5, none⟩ = some (.int .i64 x1.pos) := fun t => (HC1.out t.1 (below_on hP3.out.bel t.2)).2.2.2.2.2
  simp only [Nat.add_assoc, Nat.reduceAdd] at r1 r2 r3 r4 r5
  have hne := after_some w3
  have hwr : IntKind.i64.wrap (l + 1) = l + 1 := by simp [IntKind.wrap, IntKind.bits, IntKind.signed]; omega
  refine region_after 9 mixed (by kernel_rfl) ?_
  simp only [List.take_succ_cons, List.take_zero, List.drop_succ_cons, List.drop_zero]
  repeat quiet_step (with_reducible exact K111 _)
  refine wpQuiet_nil ?_
  intro w4 hb4
  have hP4 := hid' (hP3.out.below hb4)
  have hK4 := hid' (hK3.out.trans (KT.of_below hb4))
  clear K111 q0 q1 r0 r1 r2 r3 r4 r5 hne hb4
  go_wp2_with (go_at_call 62; (with_reducible refine (hA1 _ _ hP4.out).mono ?_); rintro e w5 ⟨rfl, hP5, hK5⟩; replace hP5 := hid' hP5; replace hK5 := hid' (hK4.out.trans hK5))
  go_end0
  refine ⟨rfl, hP5.out.cast ?_, hK5.out⟩
  simp [lst_app, lst_lit, List.append_assoc]

end Go.Proofs.YtnnnfabpceapcaaGreatDoor

namespace Go.Proofs.YtnnnfabpceapcaaGreatDoor
set_option linter.unusedSimpArgs false
open Go.RowKit
set_option linter.unusedVariables false
set_option linter.unusedSimpArgs false

set_option maxHeartbeats 8000000 in
set_option maxRecDepth 20000 in
theorem si113_4 {w0 : World} {tb : Nat} {str : ByteArray} {num pos : Int} {flag : Bool} {ka : Option Addr} {kn kc : Nat} (hs : str.size ≤ 1048576) :
    Ex 113 w0 tb ⟨4, str, num, flag, pos⟩ (.slice (ka) kn kc) (lst str) := fun F W hP => by
  have hP0 := hid' (hP.box (.cells #[.int .i64 4, .string str, .int .u32 num, .bool flag, .slice (ka) kn kc, .int .i64 pos] 25))
  have hb0 := hid' (heap_alloc_new W (.cells #[.int .i64 4, .string str, .int .u32 num, .bool flag, .slice (ka) kn kc, .int .i64 pos] 25))
  have hK0 : Hid (KT w0.heap.size W (W.alloc (.cells #[.int .i64 4, .string str, .int .u32 num, .bool flag, .slice (ka) kn kc, .int .i64 pos] 25))) := KT.of_below (below1 _ _)
  clear hP
  try unfold Ex at *
  try unfold ExAt at *
  unfold ndV at *
  go_enter Tryz.func113, Tryz.ntmps113
  go_wp2_with (first
    | (go_at_call 59; (with_reducible refine (put59 hP0.out _ (by first | decide | exact sz_1 (by assumption) | exact sz_l (by decide) (by assumption) | exact sz_r (by assumption) (by decide) | exact sz_3 (by decide) (by assumption) (by decide) | exact sz_t (by assumption) (by assumption) | omega)).mono ?_); rintro e w1 ⟨rfl, hP1, hK1⟩; have hb1 := hid' (hK1.box hb0.out); obtain ⟨y10, y11, y12, y13, y14, y15⟩ := box_cells hb1.out; replace hP1 := hid' hP1; replace hK1 := hid' (hK0.out.trans hK1)))
  go_end0
  refine ⟨rfl, hP1.out.cast ?_, hK1.out⟩
  rfl

set_option maxHeartbeats 8000000 in
set_option maxRecDepth 20000 in
theorem si113_8 {w0 : World} {tb : Nat} {str : ByteArray} {num pos : Int} {flag : Bool} {ka : Option Addr} {kn kc : Nat} (hs : str.size ≤ 1048576){ks : List Tr} (hl : ks.length ≤ 9223372036854775807) (hk : ∀ i (hi : i < ks.length), KidX w0 tb ka ks[i] i) :
    Ex 113 w0 tb ⟨8, str, num, flag, pos⟩ (.slice (ka) ks.length kc) (lst str ++ ([40] ++ (joinL [44, 32] (ks.map (spellT qtL)) ++ [41]))) := fun F W hP => by
  have hP0 := hid' (hP.box (.cells #[.int .i64 8, .string str, .int .u32 num, .bool flag, .slice (ka) ks.length kc, .int .i64 pos] 25))
  have hb0 := hid' (heap_alloc_new W (.cells #[.int .i64 8, .string str, .int .u32 num, .bool flag, .slice (ka) ks.length kc, .int .i64 pos] 25))
  have hK0 : Hid (KT w0.heap.size W (W.alloc (.cells #[.int .i64 8, .string str, .int .u32 num, .bool flag, .slice (ka) ks.length kc, .int .i64 pos] 25))) := KT.of_below (below1 _ _)
  clear hP
  try unfold Ex at *
  try unfold ExAt at *
  unfold ndV at *
  go_enter Tryz.func113, Tryz.ntmps113
  go_wp2_with (first
    | (go_at_call 59; (with_reducible refine (put59 hP2.out _ (by first | decide | exact sz_1 (by assumption) | exact sz_l (by decide) (by assumption) | exact sz_r (by assumption) (by decide) | exact sz_3 (by decide) (by assumption) (by decide) | exact sz_t (by assumption) (by assumption) | omega)).mono ?_); rintro e w3 ⟨rfl, hP3, hK3⟩; have hb3 := hid' (hK3.box hb2.out); obtain ⟨y30, y31, y32, y33, y34, y35⟩ := box_cells hb3.out; replace hP3 := hid' hP3; replace hK3 := hid' (hK2.out.trans hK3))
    | (go_at_call 92; (with_reducible refine (list92 hl hP1.out hk).mono ?_); rintro e w2 ⟨rfl, hP2, hK2⟩; have hb2 := hid' (hK2.box hb1.out); obtain ⟨y20, y21, y22, y23, y24, y25⟩ := box_cells hb2.out; replace hP2 := hid' hP2; replace hK2 := hid' (hK1.out.trans hK2))
    | (go_at_call 59; (with_reducible refine (put59 hP0.out _ (by first | decide | exact sz_1 (by assumption) | exact sz_l (by decide) (by assumption) | exact sz_r (by assumption) (by decide) | exact sz_3 (by decide) (by assumption) (by decide) | exact sz_t (by assumption) (by assumption) | omega)).mono ?_); rintro e w1 ⟨rfl, hP1, hK1⟩; have hb1 := hid' (hK1.box hb0.out); obtain ⟨y10, y11, y12, y13, y14, y15⟩ := box_cells hb1.out; replace hP1 := hid' hP1; replace hK1 := hid' (hK0.out.trans hK1)))
  go_end0
  refine ⟨rfl, hP3.out.cast ?_, hK3.out⟩
  simp [lst_app, lst_lit, List.append_assoc]

set_option maxHeartbeats 8000000 in
set_option maxRecDepth 20000 in
theorem ex94_1 {w0 : World} {tb : Nat} {str : ByteArray} {num pos : Int} {flag : Bool} {ka : Option Addr} {kn kc : Nat} (hs : str.size ≤ 1048576){S : List UInt8} (hE : Ex 113 w0 tb ⟨1, str, num, flag, pos⟩ (.slice ka kn kc) S) :
    Ex 94 w0 tb ⟨1, str, num, flag, pos⟩ (.slice (ka) kn kc) (S) := fun F W hP => by
  have hP0 := hid' (hP.box (.cells #[.int .i64 1, .string str, .int .u32 num, .bool flag, .slice (ka) kn kc, .int .i64 pos] 25))
  have hb0 := hid' (heap_alloc_new W (.cells #[.int .i64 1, .string str, .int .u32 num, .bool flag, .slice (ka) kn kc, .int .i64 pos] 25))
  have hK0 : Hid (KT w0.heap.size W (W.alloc (.cells #[.int .i64 1, .string str, .int .u32 num, .bool flag, .slice (ka) kn kc, .int .i64 pos] 25))) := KT.of_below (below1 _ _)
  clear hP
  try unfold Ex at *
  try unfold ExAt at *
  unfold ndV at *
  go_enter Tryz.func94, Tryz.ntmps94
  go_wp2_with (first
    | (go_at_call 113; (with_reducible refine (hE _ _ hP0.out).mono ?_); rintro e w1 ⟨rfl, hP1, hK1⟩; have hb1 := hid' (hK1.box hb0.out); obtain ⟨y10, y11, y12, y13, y14, y15⟩ := box_cells hb1.out; replace hP1 := hid' hP1; replace hK1 := hid' (hK0.out.trans hK1)))
  go_end0
  refine ⟨rfl, hP1.out.cast ?_, hK1.out⟩
  rfl

set_option maxHeartbeats 8000000 in
set_option maxRecDepth 20000 in
theorem ex94_2 {w0 : World} {tb : Nat} {str : ByteArray} {num pos : Int} {flag : Bool} {ka : Option Addr} {kn kc : Nat} (hs : str.size ≤ 1048576){S : List UInt8} (hE : Ex 113 w0 tb ⟨2, str, num, flag, pos⟩ (.slice ka kn kc) S) :
    Ex 94 w0 tb ⟨2, str, num, flag, pos⟩ (.slice (ka) kn kc) (S) := fun F W hP => by
  have hP0 := hid' (hP.box (.cells #[.int .i64 2, .string str, .int .u32 num, .bool flag, .slice (ka) kn kc, .int .i64 pos] 25))
  have hb0 := hid' (heap_alloc_new W (.cells #[.int .i64 2, .string str, .int .u32 num, .bool flag, .slice (ka) kn kc, .int .i64 pos] 25))
  have hK0 : Hid (KT w0.heap.size W (W.alloc (.cells #[.int .i64 2, .string str, .int .u32 num, .bool flag, .slice (ka) kn kc, .int .i64 pos] 25))) := KT.of_below (below1 _ _)
  clear hP
  try unfold Ex at *
  try unfold ExAt at *
  unfold ndV at *
  go_enter Tryz.func94, Tryz.ntmps94
  go_wp2_with (first
    | (go_at_call 113; (with_reducible refine (hE _ _ hP0.out).mono ?_); rintro e w1 ⟨rfl, hP1, hK1⟩; have hb1 := hid' (hK1.box hb0.out); obtain ⟨y10, y11, y12, y13, y14, y15⟩ := box_cells hb1.out; replace hP1 := hid' hP1; replace hK1 := hid' (hK0.out.trans hK1)))
  go_end0
  refine ⟨rfl, hP1.out.cast ?_, hK1.out⟩
  rfl

set_option maxHeartbeats 8000000 in
set_option maxRecDepth 20000 in
theorem ex94_3 {w0 : World} {tb : Nat} {str : ByteArray} {num pos : Int} {flag : Bool} {ka : Option Addr} {kn kc : Nat} (hs : str.size ≤ 1048576){S : List UInt8} (hE : Ex 113 w0 tb ⟨3, str, num, flag, pos⟩ (.slice ka kn kc) S) :
    Ex 94 w0 tb ⟨3, str, num, flag, pos⟩ (.slice (ka) kn kc) (S) := fun F W hP => by
  have hP0 := hid' (hP.box (.cells #[.int .i64 3, .string str, .int .u32 num, .bool flag, .slice (ka) kn kc, .int .i64 pos] 25))
  have hb0 := hid' (heap_alloc_new W (.cells #[.int .i64 3, .string str, .int .u32 num, .bool flag, .slice (ka) kn kc, .int .i64 pos] 25))
  have hK0 : Hid (KT w0.heap.size W (W.alloc (.cells #[.int .i64 3, .string str, .int .u32 num, .bool flag, .slice (ka) kn kc, .int .i64 pos] 25))) := KT.of_below (below1 _ _)
  clear hP
  try unfold Ex at *
  try unfold ExAt at *
  unfold ndV at *
  go_enter Tryz.func94, Tryz.ntmps94
  go_wp2_with (first
    | (go_at_call 113; (with_reducible refine (hE _ _ hP0.out).mono ?_); rintro e w1 ⟨rfl, hP1, hK1⟩; have hb1 := hid' (hK1.box hb0.out); obtain ⟨y10, y11, y12, y13, y14, y15⟩ := box_cells hb1.out; replace hP1 := hid' hP1; replace hK1 := hid' (hK0.out.trans hK1)))
  go_end0
  refine ⟨rfl, hP1.out.cast ?_, hK1.out⟩
  rfl

set_option maxHeartbeats 8000000 in
set_option maxRecDepth 20000 in
theorem ex94_4 {w0 : World} {tb : Nat} {str : ByteArray} {num pos : Int} {flag : Bool} {ka : Option Addr} {kn kc : Nat} (hs : str.size ≤ 1048576){S : List UInt8} (hE : Ex 113 w0 tb ⟨4, str, num, flag, pos⟩ (.slice ka kn kc) S) :
    Ex 94 w0 tb ⟨4, str, num, flag, pos⟩ (.slice (ka) kn kc) (S) := fun F W hP => by
  have hP0 := hid' (hP.box (.cells #[.int .i64 4, .string str, .int .u32 num, .bool flag, .slice (ka) kn kc, .int .i64 pos] 25))
  have hb0 := hid' (heap_alloc_new W (.cells #[.int .i64 4, .string str, .int .u32 num, .bool flag, .slice (ka) kn kc, .int .i64 pos] 25))
  have hK0 : Hid (KT w0.heap.size W (W.alloc (.cells #[.int .i64 4, .string str, .int .u32 num, .bool flag, .slice (ka) kn kc, .int .i64 pos] 25))) := KT.of_below (below1 _ _)
  clear hP
  try unfold Ex at *
  try unfold ExAt at *
  unfold ndV at *
  go_enter Tryz.func94, Tryz.ntmps94
  go_wp2_with (first
    | (go_at_call 113; (with_reducible refine (hE _ _ hP0.out).mono ?_); rintro e w1 ⟨rfl, hP1, hK1⟩; have hb1 := hid' (hK1.box hb0.out); obtain ⟨y10, y11, y12, y13, y14, y15⟩ := box_cells hb1.out; replace hP1 := hid' hP1; replace hK1 := hid' (hK0.out.trans hK1)))
  go_end0
  refine ⟨rfl, hP1.out.cast ?_, hK1.out⟩
  rfl

set_option maxHeartbeats 8000000 in
set_option maxRecDepth 20000 in
theorem ex94_8 {w0 : World} {tb : Nat} {str : ByteArray} {num pos : Int} {flag : Bool} {ka : Option Addr} {kn kc : Nat} (hs : str.size ≤ 1048576){S : List UInt8} (hE : Ex 113 w0 tb ⟨8, str, num, flag, pos⟩ (.slice ka kn kc) S) :
    Ex 94 w0 tb ⟨8, str, num, flag, pos⟩ (.slice (ka) kn kc) (S) := fun F W hP => by
  have hP0 := hid' (hP.box (.cells #[.int .i64 8, .string str, .int .u32 num, .bool flag, .slice (ka) kn kc, .int .i64 pos] 25))
  have hb0 := hid' (heap_alloc_new W (.cells #[.int .i64 8, .string str, .int .u32 num, .bool flag, .slice (ka) kn kc, .int .i64 pos] 25))
  have hK0 : Hid (KT w0.heap.size W (W.alloc (.cells #[.int .i64 8, .string str, .int .u32 num, .bool flag, .slice (ka) kn kc, .int .i64 pos] 25))) := KT.of_below (below1 _ _)
  clear hP
  try unfold Ex at *
  try unfold ExAt at *
  unfold ndV at *
  go_enter Tryz.func94, Tryz.ntmps94
  go_wp2_with (first
    | (go_at_call 113; (with_reducible refine (hE _ _ hP0.out).mono ?_); rintro e w1 ⟨rfl, hP1, hK1⟩; have hb1 := hid' (hK1.box hb0.out); obtain ⟨y10, y11, y12, y13, y14, y15⟩ := box_cells hb1.out; replace hP1 := hid' hP1; replace hK1 := hid' (hK0.out.trans hK1)))
  go_end0
  refine ⟨rfl, hP1.out.cast ?_, hK1.out⟩
  rfl

theorem dec_len : ∀ f n, (decF f n).length ≤ f
  | 0, n => by simp [decF]
  | f + 1, n => by
    rw [decF_eq]
    split
    · simp
    · have := dec_len f (n / 10)
      simp; omega
theorem lst_strL (l : List UInt8) : lst (strL l) = l := by simp [lst, strL]
set_option maxHeartbeats 8000000 in
set_option maxRecDepth 20000 in
theorem si113_1t {w0 : World} {tb : Nat} {str : ByteArray} {num : Nat} {pos : Int} {ka : Option Addr} {kn kc : Nat} (hn : num < 4294967296) :
    Ex 113 w0 tb ⟨1, str, (num : Int), true, pos⟩ (.slice ka kn kc) (decF 20 num ++ [117]) := fun F W hP => by
  have hP0 := hid' (hP.box (.cells #[.int .i64 1, .string str, .int .u32 (num : Int), .bool true, .slice ka kn kc, .int .i64 pos] 25))
  have hb0 := hid' (heap_alloc_new W (.cells #[.int .i64 1, .string str, .int .u32 (num : Int), .bool true, .slice ka kn kc, .int .i64 pos] 25))
  have hK0 : Hid (KT w0.heap.size W (W.alloc (.cells #[.int .i64 1, .string str, .int .u32 (num : Int), .bool true, .slice ka kn kc, .int .i64 pos] 25))) := KT.of_below (below1 _ _)
  clear hP
  unfold ndV
  have hD : Hid (∀ W', Calls Tryz.prog 120 #[.int .u32 (num : Int)] W' fun e w' => e = .returned (.string (strL (decF 20 num))) ∧ Below W'.heap.size W' w') := fun W' => decimal120 num hn W'
  have hsz : (strL (decF 20 num)).size ≤ 100000000 := by rw [show (strL (decF 20 num)).size = (decF 20 num).length from by simp [strL, ByteArray.size]]; have := dec_len 20 num; omega
  go_enter Tryz.func113, Tryz.ntmps113
  go_wp2_with (first
    | (go_at_call 59; (with_reducible refine (put59 hP2.out _ (by decide)).mono ?_); rintro e w3 ⟨rfl, hP3, hK3⟩; replace hP3 := hid' hP3; replace hK3 := hid' (hK2.out.trans hK3))
    | (go_at_call 59; (with_reducible refine (put59 hP1.out _ hsz).mono ?_); rintro e w2 ⟨rfl, hP2, hK2⟩; have hB2 := hid' (hK2.box hB1.out); obtain ⟨y0, y1, y2, y3, y4, y5⟩ := box_cells hB2.out; replace hP2 := hid' hP2; replace hK2 := hid' (hK1.out.trans hK2))
    | (go_at_call 120; (with_reducible refine (hD.out _).mono ?_); rintro e w1 ⟨rfl, hb1⟩; have hP1 := hid' (hP0.out.below hb1); have hK1 := hid' (hK0.out.trans (KT.of_below hb1)); have hB1 := hid' ((KT.of_below (B := w0.heap.size) hb1).box hb0.out); clear hb1))
  go_end0
  refine ⟨rfl, hP3.out.cast ?_, hK3.out⟩
  simp [lst_strL, lst_lit]

set_option maxHeartbeats 8000000 in
set_option maxRecDepth 20000 in
theorem si113_1f {w0 : World} {tb : Nat} {str : ByteArray} {num : Nat} {pos : Int} {ka : Option Addr} {kn kc : Nat} (hn : num < 4294967296) :
    Ex 113 w0 tb ⟨1, str, (num : Int), false, pos⟩ (.slice ka kn kc) (decF 20 num) := fun F W hP => by
  have hP0 := hid' (hP.box (.cells #[.int .i64 1, .string str, .int .u32 (num : Int), .bool false, .slice ka kn kc, .int .i64 pos] 25))
  have hb0 := hid' (heap_alloc_new W (.cells #[.int .i64 1, .string str, .int .u32 (num : Int), .bool false, .slice ka kn kc, .int .i64 pos] 25))
  have hK0 : Hid (KT w0.heap.size W (W.alloc (.cells #[.int .i64 1, .string str, .int .u32 (num : Int), .bool false, .slice ka kn kc, .int .i64 pos] 25))) := KT.of_below (below1 _ _)
  clear hP
  unfold ndV
  have hD : Hid (∀ W', Calls Tryz.prog 120 #[.int .u32 (num : Int)] W' fun e w' => e = .returned (.string (strL (decF 20 num))) ∧ Below W'.heap.size W' w') := fun W' => decimal120 num hn W'
  have hsz : (strL (decF 20 num)).size ≤ 100000000 := by rw [show (strL (decF 20 num)).size = (decF 20 num).length from by simp [strL, ByteArray.size]]; have := dec_len 20 num; omega
  go_enter Tryz.func113, Tryz.ntmps113
  go_wp2_with (first
    | (go_at_call 59; (with_reducible refine (put59 hP1.out _ hsz).mono ?_); rintro e w2 ⟨rfl, hP2, hK2⟩; have hB2 := hid' (hK2.box hB1.out); obtain ⟨y0, y1, y2, y3, y4, y5⟩ := box_cells hB2.out; replace hP2 := hid' hP2; replace hK2 := hid' (hK1.out.trans hK2))
    | (go_at_call 120; (with_reducible refine (hD.out _).mono ?_); rintro e w1 ⟨rfl, hb1⟩; have hP1 := hid' (hP0.out.below hb1); have hK1 := hid' (hK0.out.trans (KT.of_below hb1)); have hB1 := hid' ((KT.of_below (B := w0.heap.size) hb1).box hb0.out); clear hb1))
  go_end0
  refine ⟨rfl, hP2.out.cast ?_, hK2.out⟩
  simp [lst_strL]

set_option maxHeartbeats 8000000 in
set_option maxRecDepth 20000 in
theorem si113_3 {w0 : World} {tb : Nat} {str : ByteArray} {num : Int} {pos : Int} {ka : Option Addr} {kn kc : Nat} {flag : Bool} (hs : str.size ≤ 1048576) :
    Ex 113 w0 tb ⟨3, str, num, flag, pos⟩ (.slice ka kn kc) (qtL (lst str)) := fun F W hP => by
  have hP0 := hid' (hP.box (.cells #[.int .i64 3, .string str, .int .u32 num, .bool flag, .slice ka kn kc, .int .i64 pos] 25))
  have hb0 := hid' (heap_alloc_new W (.cells #[.int .i64 3, .string str, .int .u32 num, .bool flag, .slice ka kn kc, .int .i64 pos] 25))
  have hK0 : Hid (KT w0.heap.size W (W.alloc (.cells #[.int .i64 3, .string str, .int .u32 num, .bool flag, .slice ka kn kc, .int .i64 pos] 25))) := KT.of_below (below1 _ _)
  clear hP
  unfold ndV
  have hD : Hid (∀ W', Calls Tryz.prog 121 #[.string str] W' fun e w' => e = .returned (.string (strL (quoteL (lst str)))) ∧ Below W'.heap.size W' w') := fun W' => rquote121 str hs W'
  have hsz : (strL (quoteL (lst str))).size ≤ 100000000 := by rw [show (strL (quoteL (lst str))).size = (quoteL (lst str)).length from by simp [strL, ByteArray.size]]; have := flat_len (lst str); rw [lst_len] at this; unfold quoteL; simp only [List.length_append, List.length_cons, List.length_nil]; omega
  go_enter Tryz.func113, Tryz.ntmps113
  go_wp2_with (first
    | (go_at_call 59; (with_reducible refine (put59 hP1.out _ hsz).mono ?_); rintro e w2 ⟨rfl, hP2, hK2⟩; have hB2 := hid' (hK2.box hB1.out); obtain ⟨y0, y1, y2, y3, y4, y5⟩ := box_cells hB2.out; replace hP2 := hid' hP2; replace hK2 := hid' (hK1.out.trans hK2))
    | (go_at_call 121; (with_reducible refine (hD.out _).mono ?_); rintro e w1 ⟨rfl, hb1⟩; have hP1 := hid' (hP0.out.below hb1); have hK1 := hid' (hK0.out.trans (KT.of_below hb1)); have hB1 := hid' ((KT.of_below (B := w0.heap.size) hb1).box hb0.out); clear hb1))
  go_end0
  refine ⟨rfl, hP2.out.cast ?_, hK2.out⟩
  rw [lst_strL]
  unfold qtL
  rw [if_neg (by rw [lst_len]; omega)]

end Go.Proofs.YtnnnfabpceapcaaGreatDoor

namespace Go.Proofs.YtnnnfabpceapcaaGreatDoor
set_option linter.unusedSimpArgs false
open Go.RowKit
set_option linter.unusedVariables false
set_option linter.unusedSimpArgs false

/-- A character is printed. -/
def CharOk : Prop := ∀ (w0 : World) (tb : Nat) (str : ByteArray) (num : Nat) (pos : Int) (flag : Bool) (ka : Option Addr) (kn kc : Nat), num < 256 → Ex 113 w0 tb ⟨2, str, (num : Int), flag, pos⟩ (.slice ka kn kc) (chrL num)

theorem g_kid {ks : List Tr} (h : allL gN ks = true) (i : Nat) (hi : i < ks.length) : allT gN ks[i] = true := by
  unfold allL at h
  exact List.all_eq_true.1 h _ (List.mem_map.2 ⟨ks[i], List.getElem_mem hi, rfl⟩)
theorem gN_kids {x : NdH} {ks : List Tr} (h : gN x ks = true) : kidsF x ks = true := by
  have := gN_may h
  rw [mayN_eq] at this
  simp only [Bool.and_eq_true] at this
  exact this.2.2.2
theorem gN_num {x : NdH} {ks : List Tr} (h : gN x ks = true) : 0 ≤ x.num ∧ x.num < 4294967296 := by
  have := gN_typed h
  unfold typedN at this
  simp only [Bool.and_eq_true, decide_eq_true_eq] at this
  exact this.2
theorem are_get : ∀ {Fs : List Ask} {ks : List Tr}, areK Fs ks = true → ∀ i (h1 : i < Fs.length) (h2 : i < ks.length), onT Fs[i] ks[i] = true
  | F :: Fs, t :: ks, h, 0, _, _ => by
    rw [show areK (F :: Fs) (t :: ks) = (onT F t && areK Fs ks) from rfl, Bool.and_eq_true] at h
    exact h.1
  | F :: Fs, t :: ks, h, i + 1, h1, h2 => by
    rw [show areK (F :: Fs) (t :: ks) = (onT F t && areK Fs ks) from rfl, Bool.and_eq_true] at h
    exact are_get h.2 i (by simpa using h1) (by simpa using h2)

/-- What is asked of the kids that are expressions. -/
def KidsX (w0 : World) (tb : Nat) (ao : Option Addr) (ks : List Tr) : Prop := ∀ i (hi : i < ks.length), onT isExpr ks[i] = true → KidX w0 tb ao ks[i] i
/-- A kid, whatever it is. -/
def KidA (w0 : World) (ao : Option Addr) (ks : List Tr) : Prop := ∀ i (hi : i < ks.length), ∃ b off x ka kn kc ks', ao = some ⟨b, off, none⟩ ∧ b < w0.heap.size ∧ NdAt w0 b (off + i * 6) x (.slice ka kn kc) ∧ ks[i] = Tr.node x ks' ∧ x.str.size ≤ 1048576

theorem spell_of {x : NdH} {ks : List Tr} {L : List UInt8} {g : FuncId} {w0 : World} {tb : Nat} {kv : Value} (h : Ex g w0 tb x kv L) (e : spellN qtL x ks (ks.map (spellT qtL)) = L) : Ex g w0 tb x kv (spellT qtL (Tr.node x ks)) := by rw [spellT_node, e]; exact h

theorem at0 {w0 : World} {tb : Nat} {t : Tr} {x : NdH} {kv : Value} (h : ∀ k, ExAt w0 tb x kv k (atL k t (spellT qtL t))) : ExAt w0 tb x kv 0 (spellT qtL t) := by
  have := h 0
  unfold atL at this
  rw [if_pos (lvl_nn _)] at this
  exact this
theorem of_expr {t : Tr} (h : onT (ofK [4, 5, 6, 7]) t = true) (ht : isT t = true) : onT isExpr t = true := by
  obtain ⟨x, ks, rfl⟩ := isT_form ht
  rw [onT_node] at *
  unfold ofK hasI at h
  unfold isExpr
  simp at h
  simp
  omega
theorem type_text {t : Tr} {x : NdH} {l : List Tr} (h : onT (ofK [16]) t = true) (e : t = Tr.node x l) : spellT qtL t = lst x.str := by
  subst e
  rw [onT_node, of_one] at h
  rw [spellT_node]
  obtain ⟨k, s, n, f, p⟩ := x
  obtain rfl : k = 16 := eq_of_beq h
  rfl
theorem lvl_le (x : NdH) : lvl x ≤ 100 := by
  unfold lvl logF binF
  repeat' split
  all_goals omega

set_option maxHeartbeats 8000000 in
set_option maxRecDepth 20000 in
theorem expression_step {w0 : World} {tb : Nat} {x : NdH} {ka : Option Addr} {kc : Nat} {ks : List Tr} (hC : CharOk) (hlen : ks.length ≤ 9223372036854775807) (hg : gN x ks = true) (he : isExpr x ks = true) (hX : KidsX w0 tb ka ks) (hA : KidA w0 ka ks)
    (hi : isL ks = true) :
    Ex 94 w0 tb x (.slice ka ks.length kc) (spellT qtL (Tr.node x ks)) := by
  have hs := gN_str hg
  have hk := gN_kids hg
  have hm := gN_may hg
  have hnum := gN_num hg
  obtain ⟨kind, str, num, flag, pos⟩ := x
  dsimp only at *
  have hr : 1 ≤ kind ∧ kind ≤ 15 := of_decide_eq_true he
  have hcase : kind = 1 ∨ kind = 2 ∨ kind = 3 ∨ kind = 4 ∨ kind = 5 ∨ kind = 6 ∨ kind = 7 ∨ kind = 8 ∨ kind = 9 ∨ kind = 10 ∨ kind = 11 ∨ kind = 12 ∨ kind = 13 ∨ kind = 14 ∨ kind = 15 := by omega
  obtain ⟨m, rfl⟩ : ∃ m : Nat, num = m := ⟨num.toNat, by omega⟩
  rcases hcase with rfl | rfl | rfl | rfl | rfl | rfl | rfl | rfl | rfl | rfl | rfl | rfl | rfl | rfl | rfl
  · -- 1
    cases flag with
    | true => exact ex94_1 hs (spell_of (si113_1t (by omega)) (by show numL _ = _; unfold numL; simp))
    | false => exact ex94_1 hs (spell_of (si113_1f (by omega)) (by show numL _ = _; unfold numL; simp))
  · have h2 : m < 256 := by
      have := hm
      rw [mayN_eq] at this
      simp only [Bool.and_eq_true] at this
      have h3 : decide ((m : Int) ≤ 255) = true := this.2.1
      have := of_decide_eq_true h3
      omega
    exact ex94_2 hs (spell_of (hC _ _ _ m _ _ _ _ _ h2) (by show chrL _ = _; simp))
  · exact ex94_3 hs (spell_of (si113_3 hs) rfl)
  · exact ex94_4 hs (spell_of (si113_4 hs) rfl)
  · have hk' : areK [isExpr, isExpr] ks = true := hk
    obtain ⟨t0, t1, rfl⟩ := two_kids (are_len hk')
    obtain ⟨b, off, x0, kv0, rfl, hlt, hc0, hd0, hA0, hE0, _⟩ := hX 0 (by simp) (are_get hk' 0 (by simp) (by simp))
    obtain ⟨b1, off1, x1, kv1, e1, _, hc1, hd1, hA1, hE1, _⟩ := hX 1 (by simp) (are_get hk' 1 (by simp) (by simp))
    obtain ⟨rfl, rfl⟩ := kid_addr e1
    exact spell_of (ex94_5 (kn := 0) (t0 := t0) (t1 := t1) hlt hs hc0 hc1 (hA0 13) (at0 hA1)) rfl
  · have hk' : areK [isExpr] ks = true := hk
    obtain ⟨t0, rfl⟩ := one_kid (are_len hk')
    obtain ⟨b, off, x0, kv0, rfl, hlt, hc0, hd0, hA0, hE0, _⟩ := hX 0 (by simp) (are_get hk' 0 (by simp) (by simp))
    exact spell_of (ex94_6 (kn := 0) (t0 := t0) hlt hs hc0 (hA0 13)) rfl
  · have hk' : areK [isExpr] ks = true := hk
    obtain ⟨t0, rfl⟩ := one_kid (are_len hk')
    obtain ⟨b, off, x0, kv0, rfl, hlt, hc0, hd0, hA0, hE0, _⟩ := hX 0 (by simp) (are_get hk' 0 (by simp) (by simp))
    exact spell_of (ex94_7 (kn := 0) (t0 := t0) hlt hs hc0 (hA0 13)) rfl
  · have hk' : allK isExpr ks = true := hk
    exact ex94_8 hs (spell_of (si113_8 (kn := 0) hs hlen (fun i hi => hX i hi (List.all_eq_true.1 hk' _ (List.getElem_mem hi)))) rfl)
  · have hk' : areK [isExpr] ks = true := hk
    obtain ⟨t0, rfl⟩ := one_kid (are_len hk')
    obtain ⟨b, off, x0, kv0, rfl, hlt, hc0, hd0, hA0, hE0, _⟩ := hX 0 (by simp) (are_get hk' 0 (by simp) (by simp))
    have hd : hdT t0 = x0 := hd0
    have e9 : ∀ S, spellN qtL ⟨9, str, (m : Int), flag, pos⟩ [t0] [S] = lst str ++ ((if x0.kind = 9 ∧ lst x0.str = lst str then [32] else []) ++ atL 12 t0 S) := fun S => by rw [← hd]; rfl
    by_cases h9 : x0.kind = 9
    · by_cases he9 : x0.str = str
      · refine spell_of (ex94_9_y (t0 := t0) hlt hs hc0 (hA0 12) h9 he9) ?_
        show spellN qtL _ [t0] [spellT qtL t0] = _
        rw [e9, if_pos ⟨h9, by rw [he9]⟩]
        rfl
      · refine spell_of (ex94_9_s (t0 := t0) hlt hs hc0 (hA0 12) h9 he9) ?_
        show spellN qtL _ [t0] [spellT qtL t0] = _
        rw [e9, if_neg (fun h => he9 (lst_eq_of h.2))]
        rfl
    · refine spell_of (ex94_9_k (t0 := t0) hlt hs hc0 (hA0 12) h9) ?_
      show spellN qtL _ [t0] [spellT qtL t0] = _
      rw [e9, if_neg (fun h => h9 h.1)]
      rfl
  · have hk' : areK [isExpr, isExpr] ks = true := hk
    obtain ⟨t0, t1, rfl⟩ := two_kids (are_len hk')
    obtain ⟨b, off, x0, kv0, rfl, hlt, hc0, hd0, hA0, hE0, _⟩ := hX 0 (by simp) (are_get hk' 0 (by simp) (by simp))
    obtain ⟨b1, off1, x1, kv1, e1, _, hc1, hd1, hA1, hE1, _⟩ := hX 1 (by simp) (are_get hk' 1 (by simp) (by simp))
    obtain ⟨rfl, rfl⟩ := kid_addr e1
    exact spell_of (ex94_10 hlt hs hc0 hc1 (lvl_op hm (by left; rfl)) (lvl_nn _) (lvl_le _) (hA0 _) (hA1 _)) rfl
  · have hk' : areK [isExpr, isExpr] ks = true := hk
    obtain ⟨t0, t1, rfl⟩ := two_kids (are_len hk')
    obtain ⟨b, off, x0, kv0, rfl, hlt, hc0, hd0, hA0, hE0, _⟩ := hX 0 (by simp) (are_get hk' 0 (by simp) (by simp))
    obtain ⟨b1, off1, x1, kv1, e1, _, hc1, hd1, hA1, hE1, _⟩ := hX 1 (by simp) (are_get hk' 1 (by simp) (by simp))
    obtain ⟨rfl, rfl⟩ := kid_addr e1
    exact spell_of (ex94_11 hlt hs hc0 hc1 (lvl_op hm (by right; rfl)) (lvl_nn _) (lvl_le _) (hA0 _) (hA1 _)) rfl
  · have hk' : areK [isExpr, isExpr, isExpr] ks = true := hk
    obtain ⟨t0, t1, t2, rfl⟩ := three_kids (are_len hk')
    obtain ⟨b, off, x0, kv0, rfl, hlt, hc0, hd0, hA0, hE0, _⟩ := hX 0 (by simp) (are_get hk' 0 (by simp) (by simp))
    obtain ⟨b1, off1, x1, kv1, e1, _, hc1, hd1, hA1, hE1, _⟩ := hX 1 (by simp) (are_get hk' 1 (by simp) (by simp))
    obtain ⟨b2, off2, x2, kv2, e2, _, hc2, hd2, hA2, hE2, _⟩ := hX 2 (by simp) (are_get hk' 2 (by simp) (by simp))
    obtain ⟨rfl, rfl⟩ := kid_addr e1
    obtain ⟨rfl, rfl⟩ := kid_addr e2
    exact spell_of (ex94_12 (kn := 0) (t0 := t0) (t1 := t1) (t2 := t2) hlt hs hc0 hc1 hc2 (hA0 2) (at0 hA1) (hA2 1)) rfl
  · have hk' : areK [ofK [4, 5, 6, 7], isExpr] ks = true := hk
    obtain ⟨t0, t1, rfl⟩ := two_kids (are_len hk')
    obtain ⟨b, off, x0, kv0, rfl, hlt, hc0, hd0, hA0, hE0, _⟩ := hX 0 (by simp) (of_expr (are_get hk' 0 (by simp) (by simp)) (isL_mem hi _ (by simp)))
    obtain ⟨b1, off1, x1, kv1, e1, _, hc1, hd1, hA1, hE1, _⟩ := hX 1 (by simp) (are_get hk' 1 (by simp) (by simp))
    obtain ⟨rfl, rfl⟩ := kid_addr e1
    exact spell_of (ex94_13 (kn := 0) (t0 := t0) (t1 := t1) hlt hs hc0 hc1 (hA0 13) (at0 hA1)) rfl
  · have hk' : areK [ofK [16], isExpr] ks = true := hk
    obtain ⟨t0, t1, rfl⟩ := two_kids (are_len hk')
    obtain ⟨b, off, x0, ka0, kn0, kc0, l0, rfl, hlt, hc0, ht0, hs0⟩ := hA 0 (by simp)
    obtain ⟨b1, off1, x1, kv1, e1, _, hc1, hd1, hA1, hE1, _⟩ := hX 1 (by simp) (are_get hk' 1 (by simp) (by simp))
    obtain ⟨rfl, rfl⟩ := kid_addr e1
    have ht0' : t0 = Tr.node x0 l0 := ht0
    have h16 : onT (ofK [16]) t0 = true := are_get hk' 0 (by simp) (by simp)
    refine spell_of (ex94_14 (kn := 0) (t0 := t0) (t1 := t1) hlt hs hc0 hc1 hs0 (hA1 12)) ?_
    show parenL (spellT qtL t0) ++ atL 12 t1 (spellT qtL t1) = _
    rw [type_text h16 ht0']
    rfl
  · have hk' : areK [orK [ofK [16], isExpr]] ks = true := hk
    obtain ⟨t0, rfl⟩ := one_kid (are_len hk')
    obtain ⟨b, off, x0, ka0, kn0, kc0, l0, rfl, hlt, hc0, ht0, hs0⟩ := hA 0 (by simp)
    have ht0' : t0 = Tr.node x0 l0 := ht0
    have e15 : ∀ S, spellN qtL ⟨15, str, (m : Int), flag, pos⟩ [t0] [S] = [115, 105, 122, 101, 111, 102] ++ (if x0.kind = 16 then parenL S else [32] ++ (if x0.kind = 14 then parenL S else atL 12 t0 S)) := fun S => by
      rw [show x0 = hdT t0 by rw [ht0']; rfl]
      rfl
    by_cases h16 : x0.kind = 16
    · refine spell_of (ex94_15 (kn := 0) (t0 := t0) hlt hs hc0 (A0 := [115, 105, 122, 101, 111, 102] ++ parenL (lst x0.str)) ?_) ?_
      · obtain ⟨k0, s0, n0, f0, p0⟩ := x0
        dsimp only at h16
        subst h16
        exact sz112_16 hs0
      · show spellN qtL _ [t0] [spellT qtL t0] = _
        rw [e15, if_pos h16, type_text (by rw [ht0', onT_node, of_one, h16]; rfl) ht0']
    · have hex : onT isExpr t0 = true := by
        have := are_get hk' 0 (by simp) (by simp)
        have h3 : onT (orK [ofK [16], isExpr]) t0 = true := this
        rw [ht0', onT_node] at h3 ⊢
        have e : orK [ofK [16], isExpr] x0 l0 = (ofK [16] x0 l0 || (isExpr x0 l0 || false)) := rfl
        rw [e, of_one, show (x0.kind == 16) = false by rw [beq_eq_false_iff_ne]; exact h16] at h3
        simpa using h3
      obtain ⟨b1, off1, x1, kv1, e1, _, hc1, hd1, hA1, hE1, ka1, kn1, kc1, rfl⟩ := hX 0 (by simp) hex
      obtain ⟨rfl, rfl⟩ := kid_addr e1
      have hx1 : x1 = x0 := by rw [← hd1]; show hdT t0 = x0; rw [ht0']; rfl
      subst hx1
      by_cases h14 : x1.kind = 14
      · refine spell_of (ex94_15 (kn := 0) (t0 := t0) hlt hs hc1 (A0 := [115, 105, 122, 101, 111, 102] ++ ([32] ++ parenL (spellT qtL t0))) ?_) ?_
        · obtain ⟨k0, s0, n0, f0, p0⟩ := x1
          dsimp only at h14
          subst h14
          exact sz112_14 hs0 hE1
        · show spellN qtL _ [t0] [spellT qtL t0] = _
          rw [e15, if_neg h16, if_pos h14]
      · refine spell_of (ex94_15 (kn := 0) (t0 := t0) hlt hs hc1 (A0 := [115, 105, 122, 101, 111, 102] ++ ([32] ++ atL 12 t0 (spellT qtL t0))) ?_) ?_
        · obtain ⟨k0, s0, n0, f0, p0⟩ := x1
          exact sz112_o hs0 h16 h14 (hA1 12)
        · show spellN qtL _ [t0] [spellT qtL t0] = _
          rw [e15, if_neg h16, if_neg h14]
end Go.Proofs.YtnnnfabpceapcaaGreatDoor

namespace Go.Proofs.YtnnnfabpceapcaaGreatDoor
set_option linter.unusedSimpArgs false
open Go.RowKit
set_option linter.unusedVariables false
set_option linter.unusedSimpArgs false

theorem kida {w0 : World} {cb n : Nat} {ao : Option Addr} {cap : Nat} {ks : List Tr} (hK : Ks cb n w0 (.slice ao ks.length cap) ks) (hg : allL gN ks = true) : KidA w0 ao ks := fun i hi => by
  obtain ⟨m, b, off, x', kv', ks', hm, e, ⟨hlt, hne⟩, he, hc, hk⟩ := hK.kid i hi
  obtain ⟨_, ka, kc, rfl⟩ := hk.shape
  have hgi := g_kid hg i hi
  rw [he, allT_node, Bool.and_eq_true] at hgi
  exact ⟨b, off, x', ka, _, kc, ks', e, hlt, hc, he, gN_str hgi.1⟩

theorem expression_all (hC : CharOk) {cb : Nat} {w0 : World} {tb : Nat} : ∀ (n : Nat) {x : NdH} {kv : Value} {ks : List Tr}, Ks cb n w0 kv ks → allT gN (Tr.node x ks) = true → isExpr x ks = true → Ex 94 w0 tb x kv (spellT qtL (Tr.node x ks)) := fun n => by
  induction n using Nat.strongRecOn with
  | ind n ih =>
  intro x kv ks hK hg he
  rw [allT_node, Bool.and_eq_true] at hg
  obtain ⟨hlen, ao, cap, rfl⟩ := hK.shape
  refine expression_step hC hlen hg.1 he (fun i hi hex => ?_) (kida hK hg.2) hK.isL
  obtain ⟨m, b, off, x', kv', ks', hm, e, ⟨hlt, hne⟩, hei, hc, hk⟩ := hK.kid i hi
  have hgi := g_kid hg.2 i hi
  rw [hei] at hgi hex ⊢
  rw [onT_node] at hex
  have hE := ih m hm hk hgi hex
  obtain ⟨_, ka, kc, rfl⟩ := hk.shape
  rw [allT_node, Bool.and_eq_true] at hgi
  exact ⟨b, off, x', _, e, hlt, hc, rfl, fun k => at62 hE (gN_may hgi.1) k, hE, ka, _, kc, rfl⟩
theorem kidx (hC : CharOk) {w0 : World} {tb cb n : Nat} {ao : Option Addr} {cap : Nat} {ks : List Tr} (hK : Ks cb n w0 (.slice ao ks.length cap) ks) (hg : allL gN ks = true) : KidsX w0 tb ao ks := fun i hi hex => by
  obtain ⟨m, b, off, x', kv', ks', hm, e, ⟨hlt, hne⟩, hei, hc, hk⟩ := hK.kid i hi
  have hgi := g_kid hg i hi
  rw [hei] at hgi hex ⊢
  rw [onT_node] at hex
  have hE := expression_all (tb := tb) hC m hk hgi hex
  obtain ⟨_, ka, kc, rfl⟩ := hk.shape
  rw [allT_node, Bool.and_eq_true] at hgi
  exact ⟨b, off, x', _, e, hlt, hc, rfl, fun k => at62 hE (gN_may hgi.1) k, hE, ka, _, kc, rfl⟩

set_option maxHeartbeats 4000000 in
theorem test63 {w0 : World} {tb : Nat} {x : NdH} {kv : Value} {S : List UInt8} (hA : ExAt w0 tb x kv 0 S) (wd more : ByteArray) (hw : wd.size ≤ 50) (hm : more.size ≤ 50) (F : List UInt8) (W : World) (hP : Pt w0 tb F W) :
    Calls Tryz.prog 63 #[.pointer (some ⟨tb, 0, none⟩), .string wd, ndV x kv, .string more] W (Puts w0 tb F (lst wd ++ ([32, 40] ++ (S ++ ([41] ++ lst more)))) W) := by
  have hP0 := hid' (hP.box (.cells #[.int .i64 x.kind, .string x.str, .int .u32 x.num, .bool x.flag, kv, .int .i64 x.pos] 25))
  have hb0 := hid' (box_new W x kv)
  have hK0 : Hid (KT w0.heap.size W (W.alloc (.cells #[.int .i64 x.kind, .string x.str, .int .u32 x.num, .bool x.flag, kv, .int .i64 x.pos] 25))) := KT.of_below (below1 _ _)
  have s1 : (wd ++ (⟨#[32, 40]⟩ : ByteArray)).size ≤ 100000000 := by rw [ByteArray.size_append]; have : (⟨#[32, 40]⟩ : ByteArray).size = 2 := rfl; omega
  have s2 : ((⟨#[41]⟩ : ByteArray) ++ more).size ≤ 100000000 := by rw [ByteArray.size_append]; have : (⟨#[41]⟩ : ByteArray).size = 1 := rfl; omega
  clear hP
  unfold ExAt at *
  unfold ndV at *
  go_enter Tryz.func63, Tryz.ntmps63
  go_wp2_with (first
    | (go_at_call 59; (with_reducible refine (put59 hP2.out _ s2).mono ?_); rintro e w3 ⟨rfl, hP3, hK3⟩; replace hP3 := hid' hP3; replace hK3 := hid' (hK2.out.trans hK3))
    | (go_at_call 62; (with_reducible refine (hA _ _ hP1.out).mono ?_); rintro e w2 ⟨rfl, hP2, hK2⟩; replace hP2 := hid' hP2; replace hK2 := hid' (hK1.out.trans hK2))
    | (go_at_call 59; (with_reducible refine (put59 hP0.out _ s1).mono ?_); rintro e w1 ⟨rfl, hP1, hK1⟩; obtain ⟨y0, y1, y2, y3, y4, y5⟩ := box_cells (hK1.box hb0.out); replace hP1 := hid' hP1; replace hK1 := hid' (hK0.out.trans hK1)))
  go_end0
  refine ⟨rfl, hP3.out.cast ?_, hK3.out⟩
  simp [lst_app, lst_lit, List.append_assoc]

/-- A kid that is a statement or a declaration. -/
def KidL (w0 : World) (tb : Nat) (ao : Option Addr) (t : Tr) (i : Nat) : Prop :=
  ∃ b off x kv, ao = some ⟨b, off, none⟩ ∧ b < w0.heap.size ∧ NdAt w0 b (off + i * 6) x kv ∧ Ex 37 w0 tb x kv (spellT qtL t)
theorem join0_snoc (a : List UInt8) : ∀ (l : List (List UInt8)), joinL [] (l ++ [a]) = joinL [] l ++ a
  | [] => by simp [joinL]
  | [b] => by simp [joinL]
  | b :: c :: r => by
    have ih := join0_snoc a (c :: r)
    show b ++ ([] ++ joinL [] ((c :: r) ++ [a])) = (b ++ ([] ++ joinL [] (c :: r))) ++ a
    rw [ih]
    simp

set_option maxHeartbeats 4000000 in
theorem all21 {w0 W : World} {tb : Nat} {F : List UInt8} {ao : Option Addr} {cap : Nat} {ks : List Tr} (hl : ks.length ≤ 9223372036854775807) (hP : Pt w0 tb F W) (hk : ∀ i (hi : i < ks.length), KidL w0 tb ao ks[i] i) :
    Calls Tryz.prog 21 #[.pointer (some ⟨tb, 0, none⟩), .slice ao ks.length cap] W (Puts w0 tb F (joinL [] (ks.map (spellT qtL))) W) := by
  have HP := hid' hP
  have HK := hid' hk
  clear hP hk
  go_enter Tryz.func21, Tryz.ntmps21
  go_wp2
  go_loopw [4] (fun i wr => ∃ j : Nat, j ≤ ks.length ∧ i = .int .i64 (j : Nat) ∧ Pt w0 tb (F ++ joinL [] ((ks.take j).map (spellT qtL))) wr ∧ KT w0.heap.size W wr) (fun i _ => ks.length - (intOf i).toNat)
  case atStart => exact ⟨0, Nat.zero_le _, rfl, HP.out.cast (by simp [joinL]), KT.rfl _ _⟩
  case round =>
    obtain ⟨j, hj, rfl, hPt, hKt⟩ := hrel
    have HPt := hid' hPt
    have HKt := hid' hKt
    have hbel := hPt.bel
    clear hPt hKt
    by_cases hjt : j < ks.length
    · obtain ⟨b, off, x, kv, rfl, hlt, hc, hE⟩ := HK.out j hjt
      have HE := hid' hE
      obtain ⟨c0, c1, c2, c3, c4, c5⟩ := nd_below hc hbel hlt
      have hlw : b < wr.heap.size := Nat.lt_of_lt_of_le hlt hbel.size
      have hij : (j : Int) < ks.length := by omega
      have HN : Hid (joinL [] ((ks.take (j + 1)).map (spellT qtL)) = joinL [] ((ks.take j).map (spellT qtL)) ++ spellT qtL ks[j]) := by
        unfold Hid
        rw [take_next ks j hjt, List.map_append]
        exact join0_snoc _ _
      clear hE hc
      unfold Ex at HE
      unfold ndV at HE
      go_wp2_with (go_at_call 37; (with_reducible refine (HE.out _ _ HPt.out).mono ?_); rintro e w1 ⟨rfl, hP1, hK1⟩; replace hP1 := hid' hP1; replace hK1 := hid' hK1)
      go_roundw
      case rel => exact ⟨j + 1, by omega, by go_num, hP1.out.cast (by rw [HN.out]; simp), HKt.out.trans hK1.out⟩
      case measure => simp [intOf]; omega
    · have e : j = ks.length := by omega
      subst e
      go_wp2_with fail
      go_end0
      exact ⟨rfl, HPt.out.cast (by rw [List.take_length]), HKt.out⟩
end Go.Proofs.YtnnnfabpceapcaaGreatDoor

namespace Go.Proofs.YtnnnfabpceapcaaGreatDoor
set_option linter.unusedSimpArgs false
open Go.RowKit
set_option linter.unusedVariables false
set_option linter.unusedSimpArgs false

def hxS : ByteArray := ⟨#[48, 49, 50, 51, 52, 53, 54, 55, 56, 57, 97, 98, 99, 100, 101, 102]⟩
theorem hx_at : ∀ n : Nat, n < 16 → lst (hxS.extract n (n + 1)) = [hdC n] := by decide

theorem ext_sz (x : ByteArray) (h : x.size = 16) (a b c d : Nat) : ((⟨#[39, 92, 120]⟩ : ByteArray) ++ x.extract a b ++ x.extract c d ++ (⟨#[39]⟩ : ByteArray)).size ≤ 100000000 := by
  have h1 : (⟨#[39, 92, 120]⟩ : ByteArray).size = 3 := rfl
  have h2 : (⟨#[39]⟩ : ByteArray).size = 1 := rfl
  rw [ByteArray.size_append, ByteArray.size_append, ByteArray.size_append, ByteArray.size_extract, ByteArray.size_extract]
  omega

set_option maxHeartbeats 8000000 in
set_option maxRecDepth 20000 in
theorem si113_2 {w0 : World} {tb : Nat} {str : ByteArray} {num : Nat} {pos : Int} {flag : Bool} {ka : Option Addr} {kn kc : Nat} (hn : num < 256) :
    Ex 113 w0 tb ⟨2, str, (num : Int), flag, pos⟩ (.slice ka kn kc) (chrL num) := fun F W hP => by
  obtain ⟨W0, hW0⟩ : ∃ W0, W0 = W.alloc (.cells #[.int .i64 2, .string str, .int .u32 (num : Int), .bool flag, .slice ka kn kc, .int .i64 pos] 25) := ⟨_, rfl⟩
  have hP0 : Hid (Pt w0 tb F W0) := by rw [hW0]; exact hP.box _
  have hb0 : Hid (W0.heap[W.heap.size]? = some (.cells #[.int .i64 2, .string str, .int .u32 (num : Int), .bool flag, .slice ka kn kc, .int .i64 pos] 25 (0, 0))) := by rw [hW0]; exact heap_alloc_new W _
  have hK0 : Hid (KT w0.heap.size W W0) := by rw [hW0]; exact KT.of_below (below1 _ _)
  have HW := hid' hW0
  clear hP hW0
  unfold ndV
  go_enter Tryz.func113, Tryz.ntmps113
  go_wp2_with fail
  rw [← HW.out]
  have q2 : ∀ t : After W0, t.1.cell? ⟨W.heap.size, 2, none⟩ = some (.int .u32 (num : Int)) := fun t => (box_cells ((KT.of_below (B := w0.heap.size) t.2).box hb0.out)).2.2.1
  have hne := after_some W0
  have a0 : (0 : Int) ≤ (num : Int) / 16 := by omega
  have a1 : (num : Int) / 16 + 1 ≤ 16 := by omega
  have a2 : (0 : Int) ≤ (num : Int) % 16 := by omega
  have a3 : (num : Int) % 16 + 1 ≤ 16 := by omega
  have a4 : (0 : Int) ≤ (num : Int) / 16 + 1 := by omega
  have a5 : (num : Int) / 16 ≤ (num : Int) / 16 + 1 := by omega
  have a6 : (0 : Int) ≤ (num : Int) % 16 + 1 := by omega
  have a7 : (num : Int) % 16 ≤ (num : Int) % 16 + 1 := by omega
  have e1 : ((num : Int) / 16 + 1).toNat - ((num : Int) / 16).toNat = 1 := by omega
  have e2 : ((num : Int) % 16 + 1).toNat - ((num : Int) % 16).toNat = 1 := by omega
  have tm : (num : Int).tmod 16 = (num : Int) % 16 := Int.tmod_eq_emod_of_nonneg (by omega)
  have w1 : IntKind.u32.wrap ((num : Int) / 16) = (num : Int) / 16 := by simp [IntKind.wrap, IntKind.bits, IntKind.signed]; omega
  have w2 : IntKind.u32.wrap ((num : Int) / 16 + 1) = (num : Int) / 16 + 1 := by simp [IntKind.wrap, IntKind.bits, IntKind.signed]; omega
  have w3 : IntKind.u32.wrap ((num : Int) % 16) = (num : Int) % 16 := by simp [IntKind.wrap, IntKind.bits, IntKind.signed]; omega
  have w4 : IntKind.u32.wrap ((num : Int) % 16 + 1) = (num : Int) % 16 + 1 := by simp [IntKind.wrap, IntKind.bits, IntKind.signed]; omega
  refine region_after 20 mixed (by kernel_rfl) ?_
  simp only [List.take_succ_cons, List.take_zero, List.drop_succ_cons, List.drop_zero]
  repeat quiet_step (fail)
  refine wpQuiet_nil ?_
  intro w1 hb1
  have hP1 := hid' (hP0.out.below hb1)
  have hK1 := hid' (hK0.out.trans (KT.of_below hb1))
  clear q2 hne hb1
  go_wp2_with (go_at_call 59; (with_reducible refine (put59 hP1.out _ (ext_sz ⟨#[48, 49, 50, 51, 52, 53, 54, 55, 56, 57, 97, 98, 99, 100, 101, 102]⟩ rfl _ _ _ _)).mono ?_); rintro e w2 ⟨rfl, hP2, hK2⟩; replace hP2 := hid' hP2; replace hK2 := hid' (hK1.out.trans hK2))
  go_end0
  refine ⟨rfl, hP2.out.cast ?_, hK2.out⟩
  have g1 : lst (ByteArray.extract ⟨#[48, 49, 50, 51, 52, 53, 54, 55, 56, 57, 97, 98, 99, 100, 101, 102]⟩ (num / 16) (num / 16 + 1)) = [hdC (num / 16)] := hx_at _ (by omega)
  have g2 : lst (ByteArray.extract ⟨#[48, 49, 50, 51, 52, 53, 54, 55, 56, 57, 97, 98, 99, 100, 101, 102]⟩ (num % 16) (num % 16 + 1)) = [hdC (num % 16)] := hx_at _ (by omega)
  rw [lst_app, lst_app, lst_app, g1, g2]
  rfl
theorem char_ok : CharOk := fun _ _ _ _ _ _ _ _ _ h => si113_2 h
end Go.Proofs.YtnnnfabpceapcaaGreatDoor

namespace Go.Proofs.YtnnnfabpceapcaaGreatDoor
set_option linter.unusedSimpArgs false
open Go.RowKit
set_option linter.unusedVariables false
set_option linter.unusedSimpArgs false

set_option maxHeartbeats 8000000 in
set_option maxRecDepth 20000 in
theorem li37_41 {w0 : World} {tb : Nat} {str : ByteArray} {num pos : Int} {flag : Bool} {ka : Option Addr} {kn kc : Nat} (hs : str.size ≤ 1048576){ks : List Tr} (hl : ks.length ≤ 9223372036854775807) (hk : ∀ i (hi : i < ks.length), KidL w0 tb ka ks[i] i) :
    Ex 37 w0 tb ⟨41, str, num, flag, pos⟩ (.slice (ka) ks.length kc) ([115, 116, 114, 117, 99, 116, 32] ++ (lst str ++ ([32, 123, 10] ++ (joinL [] (ks.map (spellT qtL)) ++ [125, 59, 10])))) := fun F W hP => by
  have hP0 := hid' (hP.box (.cells #[.int .i64 41, .string str, .int .u32 num, .bool flag, .slice (ka) ks.length kc, .int .i64 pos] 25))
  have hb0 := hid' (heap_alloc_new W (.cells #[.int .i64 41, .string str, .int .u32 num, .bool flag, .slice (ka) ks.length kc, .int .i64 pos] 25))
  have hK0 : Hid (KT w0.heap.size W (W.alloc (.cells #[.int .i64 41, .string str, .int .u32 num, .bool flag, .slice (ka) ks.length kc, .int .i64 pos] 25))) := KT.of_below (below1 _ _)
  clear hP
  try unfold Ex at *
  try unfold ExAt at *
  unfold ndV at *
  go_enter Tryz.func37, Tryz.ntmps37
  go_wp2_with (first
    | (go_at_call 59; (with_reducible refine (put59 hP2.out _ (by first | decide | exact sz_1 (by assumption) | exact sz_l (by decide) (by assumption) | exact sz_r (by assumption) (by decide) | exact sz_3 (by decide) (by assumption) (by decide) | exact sz_t (by assumption) (by assumption) | omega)).mono ?_); rintro e w3 ⟨rfl, hP3, hK3⟩; have hb3 := hid' (hK3.box hb2.out); obtain ⟨y30, y31, y32, y33, y34, y35⟩ := box_cells hb3.out; replace hP3 := hid' hP3; replace hK3 := hid' (hK2.out.trans hK3))
    | (go_at_call 21; (with_reducible refine (all21 hl hP1.out hk).mono ?_); rintro e w2 ⟨rfl, hP2, hK2⟩; have hb2 := hid' (hK2.box hb1.out); obtain ⟨y20, y21, y22, y23, y24, y25⟩ := box_cells hb2.out; replace hP2 := hid' hP2; replace hK2 := hid' (hK1.out.trans hK2))
    | (go_at_call 59; (with_reducible refine (put59 hP0.out _ (by first | decide | exact sz_1 (by assumption) | exact sz_l (by decide) (by assumption) | exact sz_r (by assumption) (by decide) | exact sz_3 (by decide) (by assumption) (by decide) | exact sz_t (by assumption) (by assumption) | omega)).mono ?_); rintro e w1 ⟨rfl, hP1, hK1⟩; have hb1 := hid' (hK1.box hb0.out); obtain ⟨y10, y11, y12, y13, y14, y15⟩ := box_cells hb1.out; replace hP1 := hid' hP1; replace hK1 := hid' (hK0.out.trans hK1)))
  go_end0
  refine ⟨rfl, hP3.out.cast ?_, hK3.out⟩
  simp [lst_app, lst_lit, List.append_assoc]

set_option maxHeartbeats 8000000 in
set_option maxRecDepth 20000 in
theorem li37_47 {w0 : World} {tb : Nat} {str : ByteArray} {num pos : Int} {flag : Bool} {ka : Option Addr} {kn kc : Nat} (hs : str.size ≤ 1048576){ks : List Tr} (hl : ks.length ≤ 9223372036854775807) (hk : ∀ i (hi : i < ks.length), KidL w0 tb ka ks[i] i) :
    Ex 37 w0 tb ⟨47, str, num, flag, pos⟩ (.slice (ka) ks.length kc) ([123, 10] ++ (joinL [] (ks.map (spellT qtL)) ++ [125, 10])) := fun F W hP => by
  have hP0 := hid' (hP.box (.cells #[.int .i64 47, .string str, .int .u32 num, .bool flag, .slice (ka) ks.length kc, .int .i64 pos] 25))
  have hb0 := hid' (heap_alloc_new W (.cells #[.int .i64 47, .string str, .int .u32 num, .bool flag, .slice (ka) ks.length kc, .int .i64 pos] 25))
  have hK0 : Hid (KT w0.heap.size W (W.alloc (.cells #[.int .i64 47, .string str, .int .u32 num, .bool flag, .slice (ka) ks.length kc, .int .i64 pos] 25))) := KT.of_below (below1 _ _)
  clear hP
  try unfold Ex at *
  try unfold ExAt at *
  unfold ndV at *
  go_enter Tryz.func37, Tryz.ntmps37
  go_wp2_with (first
    | (go_at_call 59; (with_reducible refine (put59 hP2.out _ (by first | decide | exact sz_1 (by assumption) | exact sz_l (by decide) (by assumption) | exact sz_r (by assumption) (by decide) | exact sz_3 (by decide) (by assumption) (by decide) | exact sz_t (by assumption) (by assumption) | omega)).mono ?_); rintro e w3 ⟨rfl, hP3, hK3⟩; have hb3 := hid' (hK3.box hb2.out); obtain ⟨y30, y31, y32, y33, y34, y35⟩ := box_cells hb3.out; replace hP3 := hid' hP3; replace hK3 := hid' (hK2.out.trans hK3))
    | (go_at_call 21; (with_reducible refine (all21 hl hP1.out hk).mono ?_); rintro e w2 ⟨rfl, hP2, hK2⟩; have hb2 := hid' (hK2.box hb1.out); obtain ⟨y20, y21, y22, y23, y24, y25⟩ := box_cells hb2.out; replace hP2 := hid' hP2; replace hK2 := hid' (hK1.out.trans hK2))
    | (go_at_call 59; (with_reducible refine (put59 hP0.out _ (by first | decide | exact sz_1 (by assumption) | exact sz_l (by decide) (by assumption) | exact sz_r (by assumption) (by decide) | exact sz_3 (by decide) (by assumption) (by decide) | exact sz_t (by assumption) (by assumption) | omega)).mono ?_); rintro e w1 ⟨rfl, hP1, hK1⟩; have hb1 := hid' (hK1.box hb0.out); obtain ⟨y10, y11, y12, y13, y14, y15⟩ := box_cells hb1.out; replace hP1 := hid' hP1; replace hK1 := hid' (hK0.out.trans hK1)))
  go_end0
  refine ⟨rfl, hP3.out.cast ?_, hK3.out⟩
  simp [lst_app, lst_lit, List.append_assoc]

set_option maxHeartbeats 8000000 in
set_option maxRecDepth 20000 in
theorem li37_45 {w0 : World} {tb : Nat} {str : ByteArray} {num pos : Int} {flag : Bool} {ka : Option Addr} {kn kc : Nat} (hs : str.size ≤ 1048576){S : List UInt8} (hE : Ex 61 w0 tb ⟨45, str, num, flag, pos⟩ (.slice ka kn kc) S) :
    Ex 37 w0 tb ⟨45, str, num, flag, pos⟩ (.slice (ka) kn kc) (S) := fun F W hP => by
  have hP0 := hid' (hP.box (.cells #[.int .i64 45, .string str, .int .u32 num, .bool flag, .slice (ka) kn kc, .int .i64 pos] 25))
  have hb0 := hid' (heap_alloc_new W (.cells #[.int .i64 45, .string str, .int .u32 num, .bool flag, .slice (ka) kn kc, .int .i64 pos] 25))
  have hK0 : Hid (KT w0.heap.size W (W.alloc (.cells #[.int .i64 45, .string str, .int .u32 num, .bool flag, .slice (ka) kn kc, .int .i64 pos] 25))) := KT.of_below (below1 _ _)
  clear hP
  try unfold Ex at *
  try unfold ExAt at *
  unfold ndV at *
  go_enter Tryz.func37, Tryz.ntmps37
  go_wp2_with (first
    | (go_at_call 61; (with_reducible refine (hE _ _ hP0.out).mono ?_); rintro e w1 ⟨rfl, hP1, hK1⟩; have hb1 := hid' (hK1.box hb0.out); obtain ⟨y10, y11, y12, y13, y14, y15⟩ := box_cells hb1.out; replace hP1 := hid' hP1; replace hK1 := hid' (hK0.out.trans hK1)))
  go_end0
  refine ⟨rfl, hP1.out.cast ?_, hK1.out⟩
  rfl

set_option maxHeartbeats 8000000 in
set_option maxRecDepth 20000 in
theorem li37_52 {w0 : World} {tb : Nat} {str : ByteArray} {num pos : Int} {flag : Bool} {ka : Option Addr} {kn kc : Nat} (hs : str.size ≤ 1048576){S : List UInt8} (hE : Ex 64 w0 tb ⟨52, str, num, flag, pos⟩ (.slice ka kn kc) S) :
    Ex 37 w0 tb ⟨52, str, num, flag, pos⟩ (.slice (ka) kn kc) (S) := fun F W hP => by
  have hP0 := hid' (hP.box (.cells #[.int .i64 52, .string str, .int .u32 num, .bool flag, .slice (ka) kn kc, .int .i64 pos] 25))
  have hb0 := hid' (heap_alloc_new W (.cells #[.int .i64 52, .string str, .int .u32 num, .bool flag, .slice (ka) kn kc, .int .i64 pos] 25))
  have hK0 : Hid (KT w0.heap.size W (W.alloc (.cells #[.int .i64 52, .string str, .int .u32 num, .bool flag, .slice (ka) kn kc, .int .i64 pos] 25))) := KT.of_below (below1 _ _)
  clear hP
  try unfold Ex at *
  try unfold ExAt at *
  unfold ndV at *
  go_enter Tryz.func37, Tryz.ntmps37
  go_wp2_with (first
    | (go_at_call 64; (with_reducible refine (hE _ _ hP0.out).mono ?_); rintro e w1 ⟨rfl, hP1, hK1⟩; have hb1 := hid' (hK1.box hb0.out); obtain ⟨y10, y11, y12, y13, y14, y15⟩ := box_cells hb1.out; replace hP1 := hid' hP1; replace hK1 := hid' (hK0.out.trans hK1)))
  go_end0
  refine ⟨rfl, hP1.out.cast ?_, hK1.out⟩
  rfl

set_option maxHeartbeats 8000000 in
set_option maxRecDepth 20000 in
theorem li37_53 {w0 : World} {tb : Nat} {str : ByteArray} {num pos : Int} {flag : Bool} {ka : Option Addr} {kn kc : Nat} (hs : str.size ≤ 1048576) :
    Ex 37 w0 tb ⟨53, str, num, flag, pos⟩ (.slice (ka) kn kc) ([98, 114, 101, 97, 107, 59, 10]) := fun F W hP => by
  have hP0 := hid' (hP.box (.cells #[.int .i64 53, .string str, .int .u32 num, .bool flag, .slice (ka) kn kc, .int .i64 pos] 25))
  have hb0 := hid' (heap_alloc_new W (.cells #[.int .i64 53, .string str, .int .u32 num, .bool flag, .slice (ka) kn kc, .int .i64 pos] 25))
  have hK0 : Hid (KT w0.heap.size W (W.alloc (.cells #[.int .i64 53, .string str, .int .u32 num, .bool flag, .slice (ka) kn kc, .int .i64 pos] 25))) := KT.of_below (below1 _ _)
  clear hP
  try unfold Ex at *
  try unfold ExAt at *
  unfold ndV at *
  go_enter Tryz.func37, Tryz.ntmps37
  go_wp2_with (first
    | (go_at_call 59; (with_reducible refine (put59 hP0.out _ (by first | decide | exact sz_1 (by assumption) | exact sz_l (by decide) (by assumption) | exact sz_r (by assumption) (by decide) | exact sz_3 (by decide) (by assumption) (by decide) | exact sz_t (by assumption) (by assumption) | omega)).mono ?_); rintro e w1 ⟨rfl, hP1, hK1⟩; have hb1 := hid' (hK1.box hb0.out); obtain ⟨y10, y11, y12, y13, y14, y15⟩ := box_cells hb1.out; replace hP1 := hid' hP1; replace hK1 := hid' (hK0.out.trans hK1)))
  go_end0
  refine ⟨rfl, hP1.out.cast ?_, hK1.out⟩
  simp [lst_app, lst_lit, List.append_assoc]

set_option maxHeartbeats 8000000 in
set_option maxRecDepth 20000 in
theorem li37_54 {w0 : World} {tb : Nat} {str : ByteArray} {num pos : Int} {flag : Bool} {ka : Option Addr} {kn kc : Nat} (hs : str.size ≤ 1048576) :
    Ex 37 w0 tb ⟨54, str, num, flag, pos⟩ (.slice (ka) kn kc) ([99, 111, 110, 116, 105, 110, 117, 101, 59, 10]) := fun F W hP => by
  have hP0 := hid' (hP.box (.cells #[.int .i64 54, .string str, .int .u32 num, .bool flag, .slice (ka) kn kc, .int .i64 pos] 25))
  have hb0 := hid' (heap_alloc_new W (.cells #[.int .i64 54, .string str, .int .u32 num, .bool flag, .slice (ka) kn kc, .int .i64 pos] 25))
  have hK0 : Hid (KT w0.heap.size W (W.alloc (.cells #[.int .i64 54, .string str, .int .u32 num, .bool flag, .slice (ka) kn kc, .int .i64 pos] 25))) := KT.of_below (below1 _ _)
  clear hP
  try unfold Ex at *
  try unfold ExAt at *
  unfold ndV at *
  go_enter Tryz.func37, Tryz.ntmps37
  go_wp2_with (first
    | (go_at_call 59; (with_reducible refine (put59 hP0.out _ (by first | decide | exact sz_1 (by assumption) | exact sz_l (by decide) (by assumption) | exact sz_r (by assumption) (by decide) | exact sz_3 (by decide) (by assumption) (by decide) | exact sz_t (by assumption) (by assumption) | omega)).mono ?_); rintro e w1 ⟨rfl, hP1, hK1⟩; have hb1 := hid' (hK1.box hb0.out); obtain ⟨y10, y11, y12, y13, y14, y15⟩ := box_cells hb1.out; replace hP1 := hid' hP1; replace hK1 := hid' (hK0.out.trans hK1)))
  go_end0
  refine ⟨rfl, hP1.out.cast ?_, hK1.out⟩
  simp [lst_app, lst_lit, List.append_assoc]

set_option maxHeartbeats 8000000 in
set_option maxRecDepth 20000 in
theorem li37_56 {w0 : World} {tb : Nat} {str : ByteArray} {num pos : Int} {flag : Bool} {ka : Option Addr} {kn kc : Nat} (hs : str.size ≤ 1048576) :
    Ex 37 w0 tb ⟨56, str, num, flag, pos⟩ (.slice (ka) kn kc) ([59, 10]) := fun F W hP => by
  have hP0 := hid' (hP.box (.cells #[.int .i64 56, .string str, .int .u32 num, .bool flag, .slice (ka) kn kc, .int .i64 pos] 25))
  have hb0 := hid' (heap_alloc_new W (.cells #[.int .i64 56, .string str, .int .u32 num, .bool flag, .slice (ka) kn kc, .int .i64 pos] 25))
  have hK0 : Hid (KT w0.heap.size W (W.alloc (.cells #[.int .i64 56, .string str, .int .u32 num, .bool flag, .slice (ka) kn kc, .int .i64 pos] 25))) := KT.of_below (below1 _ _)
  clear hP
  try unfold Ex at *
  try unfold ExAt at *
  unfold ndV at *
  go_enter Tryz.func37, Tryz.ntmps37
  go_wp2_with (first
    | (go_at_call 59; (with_reducible refine (put59 hP0.out _ (by first | decide | exact sz_1 (by assumption) | exact sz_l (by decide) (by assumption) | exact sz_r (by assumption) (by decide) | exact sz_3 (by decide) (by assumption) (by decide) | exact sz_t (by assumption) (by assumption) | omega)).mono ?_); rintro e w1 ⟨rfl, hP1, hK1⟩; have hb1 := hid' (hK1.box hb0.out); obtain ⟨y10, y11, y12, y13, y14, y15⟩ := box_cells hb1.out; replace hP1 := hid' hP1; replace hK1 := hid' (hK0.out.trans hK1)))
  go_end0
  refine ⟨rfl, hP1.out.cast ?_, hK1.out⟩
  simp [lst_app, lst_lit, List.append_assoc]

set_option maxHeartbeats 8000000 in
set_option maxRecDepth 20000 in
theorem li37_48 {w0 : World} {tb : Nat} {str : ByteArray} {num pos : Int} {flag : Bool} {b0 o0 kn kc : Nat} (hlt : b0 < w0.heap.size) (hs : str.size ≤ 1048576) {t0 : Tr} {x0 : NdH} {kv0 : Value} (hc0 : NdAt w0 b0 (o0 + 0 * 6) x0 kv0){A0 : List UInt8} (hA0 : ExAt w0 tb x0 kv0 0 A0) :
    Ex 37 w0 tb ⟨48, str, num, flag, pos⟩ (.slice (some ⟨b0, o0, none⟩) 1 kc) (A0 ++ [59, 10]) := fun F W hP => by
  have hP0 := hid' (hP.box (.cells #[.int .i64 48, .string str, .int .u32 num, .bool flag, .slice (some ⟨b0, o0, none⟩) 1 kc, .int .i64 pos] 25))
  have hb0 := hid' (heap_alloc_new W (.cells #[.int .i64 48, .string str, .int .u32 num, .bool flag, .slice (some ⟨b0, o0, none⟩) 1 kc, .int .i64 pos] 25))
  have hK0 : Hid (KT w0.heap.size W (W.alloc (.cells #[.int .i64 48, .string str, .int .u32 num, .bool flag, .slice (some ⟨b0, o0, none⟩) 1 kc, .int .i64 pos] 25))) := KT.of_below (below1 _ _)
  have hlW : b0 < W.heap.size := Nat.lt_of_lt_of_le hlt hP.bel.size
  have HC0 : Hid (∀ W', Below w0.heap.size w0 W' → NdAt W' b0 (o0 + 0 * 6) x0 kv0) := fun W' hb => nd_below hc0 hb hlt
  obtain ⟨c00, c01, c02, c03, c04, c05⟩ := HC0.out W hP.bel
  clear hc0
  clear hP
  try unfold Ex at *
  try unfold ExAt at *
  unfold ndV at *
  try simp only [Nat.zero_mul, Nat.add_zero, Nat.one_mul, Nat.reduceMul, Nat.add_assoc, Nat.reduceAdd] at c00 c01 c02 c03 c04 c05
  go_enter Tryz.func37, Tryz.ntmps37
  go_wp2_with (first
    | (go_at_call 59; (with_reducible refine (put59 hP1.out _ (by first | decide | exact sz_1 (by assumption) | exact sz_l (by decide) (by assumption) | exact sz_r (by assumption) (by decide) | exact sz_3 (by decide) (by assumption) (by decide) | exact sz_t (by assumption) (by assumption) | omega)).mono ?_); rintro e w2 ⟨rfl, hP2, hK2⟩; have hb2 := hid' (hK2.box hb1.out); obtain ⟨y20, y21, y22, y23, y24, y25⟩ := box_cells hb2.out; replace hP2 := hid' hP2; replace hK2 := hid' (hK1.out.trans hK2))
    | (go_at_call 62; (with_reducible refine (hA0 _ _ hP0.out).mono ?_); rintro e w1 ⟨rfl, hP1, hK1⟩; have hb1 := hid' (hK1.box hb0.out); obtain ⟨y10, y11, y12, y13, y14, y15⟩ := box_cells hb1.out; replace hP1 := hid' hP1; replace hK1 := hid' (hK0.out.trans hK1)))
  go_end0
  refine ⟨rfl, hP2.out.cast ?_, hK2.out⟩
  simp [lst_app, lst_lit, List.append_assoc]

set_option maxHeartbeats 8000000 in
set_option maxRecDepth 20000 in
theorem li37_49_2 {w0 : World} {tb : Nat} {str : ByteArray} {num pos : Int} {flag : Bool} {b0 o0 kn kc : Nat} (hlt : b0 < w0.heap.size) (hs : str.size ≤ 1048576) {t0 : Tr} {x0 : NdH} {kv0 : Value} (hc0 : NdAt w0 b0 (o0 + 0 * 6) x0 kv0) {t1 : Tr} {x1 : NdH} {kv1 : Value} (hc1 : NdAt w0 b0 (o0 + 1 * 6) x1 kv1){A0 B1 : List UInt8} (hA0 : ExAt w0 tb x0 kv0 0 A0) (hL1 : Ex 37 w0 tb x1 kv1 B1) :
    Ex 37 w0 tb ⟨49, str, num, flag, pos⟩ (.slice (some ⟨b0, o0, none⟩) 2 kc) ([105, 102, 32, 40] ++ (A0 ++ ([41, 10] ++ B1))) := fun F W hP => by
  have hP0 := hid' (hP.box (.cells #[.int .i64 49, .string str, .int .u32 num, .bool flag, .slice (some ⟨b0, o0, none⟩) 2 kc, .int .i64 pos] 25))
  have hb0 := hid' (heap_alloc_new W (.cells #[.int .i64 49, .string str, .int .u32 num, .bool flag, .slice (some ⟨b0, o0, none⟩) 2 kc, .int .i64 pos] 25))
  have hK0 : Hid (KT w0.heap.size W (W.alloc (.cells #[.int .i64 49, .string str, .int .u32 num, .bool flag, .slice (some ⟨b0, o0, none⟩) 2 kc, .int .i64 pos] 25))) := KT.of_below (below1 _ _)
  have hlW : b0 < W.heap.size := Nat.lt_of_lt_of_le hlt hP.bel.size
  have HC0 : Hid (∀ W', Below w0.heap.size w0 W' → NdAt W' b0 (o0 + 0 * 6) x0 kv0) := fun W' hb => nd_below hc0 hb hlt
  have HC1 : Hid (∀ W', Below w0.heap.size w0 W' → NdAt W' b0 (o0 + 1 * 6) x1 kv1) := fun W' hb => nd_below hc1 hb hlt
  obtain ⟨c00, c01, c02, c03, c04, c05⟩ := HC0.out W hP.bel
  obtain ⟨c10, c11, c12, c13, c14, c15⟩ := HC1.out W hP.bel
  clear hc0
  clear hc1
  clear hP
  have hT0 : ∀ (wd more : ByteArray) (hw : wd.size ≤ 50) (hm : more.size ≤ 50) (F : List UInt8) (W : World) (hP : Pt w0 tb F W), Calls Tryz.prog 63 #[.pointer (some ⟨tb, 0, none⟩), .string wd, ndV x0 kv0, .string more] W (Puts w0 tb F (lst wd ++ ([32, 40] ++ (A0 ++ ([41] ++ lst more)))) W) := fun wd more hw hm F W hP => test63 hA0 wd more hw hm F W hP
  clear hA0
  try unfold Ex at *
  try unfold ExAt at *
  unfold ndV at *
  try simp only [Nat.zero_mul, Nat.add_zero, Nat.one_mul, Nat.reduceMul, Nat.add_assoc, Nat.reduceAdd] at c00 c01 c02 c03 c04 c05
  try simp only [Nat.zero_mul, Nat.add_zero, Nat.one_mul, Nat.reduceMul, Nat.add_assoc, Nat.reduceAdd] at c10 c11 c12 c13 c14 c15
  go_enter Tryz.func37, Tryz.ntmps37
  go_wp2_with (first
    | (go_at_call 37; (with_reducible refine (hL1 _ _ hP1.out).mono ?_); rintro e w2 ⟨rfl, hP2, hK2⟩; have hb2 := hid' (hK2.box hb1.out); obtain ⟨y20, y21, y22, y23, y24, y25⟩ := box_cells hb2.out; replace hP2 := hid' hP2; replace hK2 := hid' (hK1.out.trans hK2))
    | (go_at_call 63; (with_reducible refine (hT0 ⟨#[105, 102]⟩ ⟨#[10]⟩ (by decide) (by decide) _ _ hP0.out).mono ?_); rintro e w1 ⟨rfl, hP1, hK1⟩; have hb1 := hid' (hK1.box hb0.out); obtain ⟨y10, y11, y12, y13, y14, y15⟩ := box_cells hb1.out; have hl1 : b0 < w1.heap.size := Nat.lt_of_lt_of_le hlt hP1.bel.size; obtain ⟨d110, d111, d112, d113, d114, d115⟩ := HC1.out w1 hP1.bel; (try simp only [Nat.zero_mul, Nat.add_zero, Nat.one_mul, Nat.reduceMul, Nat.add_assoc, Nat.reduceAdd] at d110 d111 d112 d113 d114 d115); replace hP1 := hid' hP1; replace hK1 := hid' (hK0.out.trans hK1)))
  go_end0
  refine ⟨rfl, hP2.out.cast ?_, hK2.out⟩
  simp [lst_app, lst_lit, List.append_assoc]

set_option maxHeartbeats 8000000 in
set_option maxRecDepth 20000 in
theorem li37_49_3 {w0 : World} {tb : Nat} {str : ByteArray} {num pos : Int} {flag : Bool} {b0 o0 kn kc : Nat} (hlt : b0 < w0.heap.size) (hs : str.size ≤ 1048576) {t0 : Tr} {x0 : NdH} {kv0 : Value} (hc0 : NdAt w0 b0 (o0 + 0 * 6) x0 kv0) {t1 : Tr} {x1 : NdH} {kv1 : Value} (hc1 : NdAt w0 b0 (o0 + 1 * 6) x1 kv1) {t2 : Tr} {x2 : NdH} {kv2 : Value} (hc2 : NdAt w0 b0 (o0 + 2 * 6) x2 kv2){A0 B1 B2 : List UInt8} (hA0 : ExAt w0 tb x0 kv0 0 A0) (hL1 : Ex 37 w0 tb x1 kv1 B1) (hL2 : Ex 37 w0 tb x2 kv2 B2) :
    Ex 37 w0 tb ⟨49, str, num, flag, pos⟩ (.slice (some ⟨b0, o0, none⟩) 3 kc) ([105, 102, 32, 40] ++ (A0 ++ ([41, 10] ++ (B1 ++ ([101, 108, 115, 101, 10] ++ B2))))) := fun F W hP => by
  have hP0 := hid' (hP.box (.cells #[.int .i64 49, .string str, .int .u32 num, .bool flag, .slice (some ⟨b0, o0, none⟩) 3 kc, .int .i64 pos] 25))
  have hb0 := hid' (heap_alloc_new W (.cells #[.int .i64 49, .string str, .int .u32 num, .bool flag, .slice (some ⟨b0, o0, none⟩) 3 kc, .int .i64 pos] 25))
  have hK0 : Hid (KT w0.heap.size W (W.alloc (.cells #[.int .i64 49, .string str, .int .u32 num, .bool flag, .slice (some ⟨b0, o0, none⟩) 3 kc, .int .i64 pos] 25))) := KT.of_below (below1 _ _)
  have hlW : b0 < W.heap.size := Nat.lt_of_lt_of_le hlt hP.bel.size
  have HC0 : Hid (∀ W', Below w0.heap.size w0 W' → NdAt W' b0 (o0 + 0 * 6) x0 kv0) := fun W' hb => nd_below hc0 hb hlt
  have HC1 : Hid (∀ W', Below w0.heap.size w0 W' → NdAt W' b0 (o0 + 1 * 6) x1 kv1) := fun W' hb => nd_below hc1 hb hlt
  have HC2 : Hid (∀ W', Below w0.heap.size w0 W' → NdAt W' b0 (o0 + 2 * 6) x2 kv2) := fun W' hb => nd_below hc2 hb hlt
  obtain ⟨c00, c01, c02, c03, c04, c05⟩ := HC0.out W hP.bel
  obtain ⟨c10, c11, c12, c13, c14, c15⟩ := HC1.out W hP.bel
  obtain ⟨c20, c21, c22, c23, c24, c25⟩ := HC2.out W hP.bel
  clear hc0
  clear hc1
  clear hc2
  clear hP
  have hT0 : ∀ (wd more : ByteArray) (hw : wd.size ≤ 50) (hm : more.size ≤ 50) (F : List UInt8) (W : World) (hP : Pt w0 tb F W), Calls Tryz.prog 63 #[.pointer (some ⟨tb, 0, none⟩), .string wd, ndV x0 kv0, .string more] W (Puts w0 tb F (lst wd ++ ([32, 40] ++ (A0 ++ ([41] ++ lst more)))) W) := fun wd more hw hm F W hP => test63 hA0 wd more hw hm F W hP
  clear hA0
  try unfold Ex at *
  try unfold ExAt at *
  unfold ndV at *
  try simp only [Nat.zero_mul, Nat.add_zero, Nat.one_mul, Nat.reduceMul, Nat.add_assoc, Nat.reduceAdd] at c00 c01 c02 c03 c04 c05
  try simp only [Nat.zero_mul, Nat.add_zero, Nat.one_mul, Nat.reduceMul, Nat.add_assoc, Nat.reduceAdd] at c10 c11 c12 c13 c14 c15
  try simp only [Nat.zero_mul, Nat.add_zero, Nat.one_mul, Nat.reduceMul, Nat.add_assoc, Nat.reduceAdd] at c20 c21 c22 c23 c24 c25
  go_enter Tryz.func37, Tryz.ntmps37
  go_wp2_with (first
    | (go_at_call 37; (with_reducible refine (hL2 _ _ hP3.out).mono ?_); rintro e w4 ⟨rfl, hP4, hK4⟩; have hb4 := hid' (hK4.box hb3.out); obtain ⟨y40, y41, y42, y43, y44, y45⟩ := box_cells hb4.out; replace hP4 := hid' hP4; replace hK4 := hid' (hK3.out.trans hK4))
    | (go_at_call 59; (with_reducible refine (put59 hP2.out _ (by first | decide | exact sz_1 (by assumption) | exact sz_l (by decide) (by assumption) | exact sz_r (by assumption) (by decide) | exact sz_3 (by decide) (by assumption) (by decide) | exact sz_t (by assumption) (by assumption) | omega)).mono ?_); rintro e w3 ⟨rfl, hP3, hK3⟩; have hb3 := hid' (hK3.box hb2.out); obtain ⟨y30, y31, y32, y33, y34, y35⟩ := box_cells hb3.out; have hl3 : b0 < w3.heap.size := Nat.lt_of_lt_of_le hlt hP3.bel.size; obtain ⟨d320, d321, d322, d323, d324, d325⟩ := HC2.out w3 hP3.bel; (try simp only [Nat.zero_mul, Nat.add_zero, Nat.one_mul, Nat.reduceMul, Nat.add_assoc, Nat.reduceAdd] at d320 d321 d322 d323 d324 d325); replace hP3 := hid' hP3; replace hK3 := hid' (hK2.out.trans hK3))
    | (go_at_call 37; (with_reducible refine (hL1 _ _ hP1.out).mono ?_); rintro e w2 ⟨rfl, hP2, hK2⟩; have hb2 := hid' (hK2.box hb1.out); obtain ⟨y20, y21, y22, y23, y24, y25⟩ := box_cells hb2.out; replace hP2 := hid' hP2; replace hK2 := hid' (hK1.out.trans hK2))
    | (go_at_call 63; (with_reducible refine (hT0 ⟨#[105, 102]⟩ ⟨#[10]⟩ (by decide) (by decide) _ _ hP0.out).mono ?_); rintro e w1 ⟨rfl, hP1, hK1⟩; have hb1 := hid' (hK1.box hb0.out); obtain ⟨y10, y11, y12, y13, y14, y15⟩ := box_cells hb1.out; have hl1 : b0 < w1.heap.size := Nat.lt_of_lt_of_le hlt hP1.bel.size; obtain ⟨d110, d111, d112, d113, d114, d115⟩ := HC1.out w1 hP1.bel; (try simp only [Nat.zero_mul, Nat.add_zero, Nat.one_mul, Nat.reduceMul, Nat.add_assoc, Nat.reduceAdd] at d110 d111 d112 d113 d114 d115); replace hP1 := hid' hP1; replace hK1 := hid' (hK0.out.trans hK1)))
  go_end0
  refine ⟨rfl, hP4.out.cast ?_, hK4.out⟩
  simp [lst_app, lst_lit, List.append_assoc]

set_option maxHeartbeats 8000000 in
set_option maxRecDepth 20000 in
theorem li37_50 {w0 : World} {tb : Nat} {str : ByteArray} {num pos : Int} {flag : Bool} {b0 o0 kn kc : Nat} (hlt : b0 < w0.heap.size) (hs : str.size ≤ 1048576) {t0 : Tr} {x0 : NdH} {kv0 : Value} (hc0 : NdAt w0 b0 (o0 + 0 * 6) x0 kv0) {t1 : Tr} {x1 : NdH} {kv1 : Value} (hc1 : NdAt w0 b0 (o0 + 1 * 6) x1 kv1){A0 B1 : List UInt8} (hA0 : ExAt w0 tb x0 kv0 0 A0) (hL1 : Ex 37 w0 tb x1 kv1 B1) :
    Ex 37 w0 tb ⟨50, str, num, flag, pos⟩ (.slice (some ⟨b0, o0, none⟩) 2 kc) ([119, 104, 105, 108, 101, 32, 40] ++ (A0 ++ ([41, 10] ++ B1))) := fun F W hP => by
  have hP0 := hid' (hP.box (.cells #[.int .i64 50, .string str, .int .u32 num, .bool flag, .slice (some ⟨b0, o0, none⟩) 2 kc, .int .i64 pos] 25))
  have hb0 := hid' (heap_alloc_new W (.cells #[.int .i64 50, .string str, .int .u32 num, .bool flag, .slice (some ⟨b0, o0, none⟩) 2 kc, .int .i64 pos] 25))
  have hK0 : Hid (KT w0.heap.size W (W.alloc (.cells #[.int .i64 50, .string str, .int .u32 num, .bool flag, .slice (some ⟨b0, o0, none⟩) 2 kc, .int .i64 pos] 25))) := KT.of_below (below1 _ _)
  have hlW : b0 < W.heap.size := Nat.lt_of_lt_of_le hlt hP.bel.size
  have HC0 : Hid (∀ W', Below w0.heap.size w0 W' → NdAt W' b0 (o0 + 0 * 6) x0 kv0) := fun W' hb => nd_below hc0 hb hlt
  have HC1 : Hid (∀ W', Below w0.heap.size w0 W' → NdAt W' b0 (o0 + 1 * 6) x1 kv1) := fun W' hb => nd_below hc1 hb hlt
  obtain ⟨c00, c01, c02, c03, c04, c05⟩ := HC0.out W hP.bel
  obtain ⟨c10, c11, c12, c13, c14, c15⟩ := HC1.out W hP.bel
  clear hc0
  clear hc1
  clear hP
  have hT0 : ∀ (wd more : ByteArray) (hw : wd.size ≤ 50) (hm : more.size ≤ 50) (F : List UInt8) (W : World) (hP : Pt w0 tb F W), Calls Tryz.prog 63 #[.pointer (some ⟨tb, 0, none⟩), .string wd, ndV x0 kv0, .string more] W (Puts w0 tb F (lst wd ++ ([32, 40] ++ (A0 ++ ([41] ++ lst more)))) W) := fun wd more hw hm F W hP => test63 hA0 wd more hw hm F W hP
  clear hA0
  try unfold Ex at *
  try unfold ExAt at *
  unfold ndV at *
  try simp only [Nat.zero_mul, Nat.add_zero, Nat.one_mul, Nat.reduceMul, Nat.add_assoc, Nat.reduceAdd] at c00 c01 c02 c03 c04 c05
  try simp only [Nat.zero_mul, Nat.add_zero, Nat.one_mul, Nat.reduceMul, Nat.add_assoc, Nat.reduceAdd] at c10 c11 c12 c13 c14 c15
  go_enter Tryz.func37, Tryz.ntmps37
  go_wp2_with (first
    | (go_at_call 37; (with_reducible refine (hL1 _ _ hP1.out).mono ?_); rintro e w2 ⟨rfl, hP2, hK2⟩; have hb2 := hid' (hK2.box hb1.out); obtain ⟨y20, y21, y22, y23, y24, y25⟩ := box_cells hb2.out; replace hP2 := hid' hP2; replace hK2 := hid' (hK1.out.trans hK2))
    | (go_at_call 63; (with_reducible refine (hT0 ⟨#[119, 104, 105, 108, 101]⟩ ⟨#[10]⟩ (by decide) (by decide) _ _ hP0.out).mono ?_); rintro e w1 ⟨rfl, hP1, hK1⟩; have hb1 := hid' (hK1.box hb0.out); obtain ⟨y10, y11, y12, y13, y14, y15⟩ := box_cells hb1.out; have hl1 : b0 < w1.heap.size := Nat.lt_of_lt_of_le hlt hP1.bel.size; obtain ⟨d110, d111, d112, d113, d114, d115⟩ := HC1.out w1 hP1.bel; (try simp only [Nat.zero_mul, Nat.add_zero, Nat.one_mul, Nat.reduceMul, Nat.add_assoc, Nat.reduceAdd] at d110 d111 d112 d113 d114 d115); replace hP1 := hid' hP1; replace hK1 := hid' (hK0.out.trans hK1)))
  go_end0
  refine ⟨rfl, hP2.out.cast ?_, hK2.out⟩
  simp [lst_app, lst_lit, List.append_assoc]

set_option maxHeartbeats 8000000 in
set_option maxRecDepth 20000 in
theorem li37_51 {w0 : World} {tb : Nat} {str : ByteArray} {num pos : Int} {flag : Bool} {b0 o0 kn kc : Nat} (hlt : b0 < w0.heap.size) (hs : str.size ≤ 1048576) {t0 : Tr} {x0 : NdH} {kv0 : Value} (hc0 : NdAt w0 b0 (o0 + 0 * 6) x0 kv0) {t1 : Tr} {x1 : NdH} {kv1 : Value} (hc1 : NdAt w0 b0 (o0 + 1 * 6) x1 kv1){B0 A1 : List UInt8} (hL0 : Ex 37 w0 tb x0 kv0 B0) (hA1 : ExAt w0 tb x1 kv1 0 A1) :
    Ex 37 w0 tb ⟨51, str, num, flag, pos⟩ (.slice (some ⟨b0, o0, none⟩) 2 kc) ([100, 111, 10] ++ (B0 ++ ([119, 104, 105, 108, 101, 32, 40] ++ (A1 ++ [41, 59, 10])))) := fun F W hP => by
  have hP0 := hid' (hP.box (.cells #[.int .i64 51, .string str, .int .u32 num, .bool flag, .slice (some ⟨b0, o0, none⟩) 2 kc, .int .i64 pos] 25))
  have hb0 := hid' (heap_alloc_new W (.cells #[.int .i64 51, .string str, .int .u32 num, .bool flag, .slice (some ⟨b0, o0, none⟩) 2 kc, .int .i64 pos] 25))
  have hK0 : Hid (KT w0.heap.size W (W.alloc (.cells #[.int .i64 51, .string str, .int .u32 num, .bool flag, .slice (some ⟨b0, o0, none⟩) 2 kc, .int .i64 pos] 25))) := KT.of_below (below1 _ _)
  have hlW : b0 < W.heap.size := Nat.lt_of_lt_of_le hlt hP.bel.size
  have HC0 : Hid (∀ W', Below w0.heap.size w0 W' → NdAt W' b0 (o0 + 0 * 6) x0 kv0) := fun W' hb => nd_below hc0 hb hlt
  have HC1 : Hid (∀ W', Below w0.heap.size w0 W' → NdAt W' b0 (o0 + 1 * 6) x1 kv1) := fun W' hb => nd_below hc1 hb hlt
  obtain ⟨c00, c01, c02, c03, c04, c05⟩ := HC0.out W hP.bel
  obtain ⟨c10, c11, c12, c13, c14, c15⟩ := HC1.out W hP.bel
  clear hc0
  clear hc1
  clear hP
  have hT1 : ∀ (wd more : ByteArray) (hw : wd.size ≤ 50) (hm : more.size ≤ 50) (F : List UInt8) (W : World) (hP : Pt w0 tb F W), Calls Tryz.prog 63 #[.pointer (some ⟨tb, 0, none⟩), .string wd, ndV x1 kv1, .string more] W (Puts w0 tb F (lst wd ++ ([32, 40] ++ (A1 ++ ([41] ++ lst more)))) W) := fun wd more hw hm F W hP => test63 hA1 wd more hw hm F W hP
  clear hA1
  try unfold Ex at *
  try unfold ExAt at *
  unfold ndV at *
  try simp only [Nat.zero_mul, Nat.add_zero, Nat.one_mul, Nat.reduceMul, Nat.add_assoc, Nat.reduceAdd] at c00 c01 c02 c03 c04 c05
  try simp only [Nat.zero_mul, Nat.add_zero, Nat.one_mul, Nat.reduceMul, Nat.add_assoc, Nat.reduceAdd] at c10 c11 c12 c13 c14 c15
  go_enter Tryz.func37, Tryz.ntmps37
  go_wp2_with (first
    | (go_at_call 63; (with_reducible refine (hT1 ⟨#[119, 104, 105, 108, 101]⟩ ⟨#[59, 10]⟩ (by decide) (by decide) _ _ hP2.out).mono ?_); rintro e w3 ⟨rfl, hP3, hK3⟩; have hb3 := hid' (hK3.box hb2.out); obtain ⟨y30, y31, y32, y33, y34, y35⟩ := box_cells hb3.out; replace hP3 := hid' hP3; replace hK3 := hid' (hK2.out.trans hK3))
    | (go_at_call 37; (with_reducible refine (hL0 _ _ hP1.out).mono ?_); rintro e w2 ⟨rfl, hP2, hK2⟩; have hb2 := hid' (hK2.box hb1.out); obtain ⟨y20, y21, y22, y23, y24, y25⟩ := box_cells hb2.out; have hl2 : b0 < w2.heap.size := Nat.lt_of_lt_of_le hlt hP2.bel.size; obtain ⟨d210, d211, d212, d213, d214, d215⟩ := HC1.out w2 hP2.bel; (try simp only [Nat.zero_mul, Nat.add_zero, Nat.one_mul, Nat.reduceMul, Nat.add_assoc, Nat.reduceAdd] at d210 d211 d212 d213 d214 d215); replace hP2 := hid' hP2; replace hK2 := hid' (hK1.out.trans hK2))
    | (go_at_call 59; (with_reducible refine (put59 hP0.out _ (by first | decide | exact sz_1 (by assumption) | exact sz_l (by decide) (by assumption) | exact sz_r (by assumption) (by decide) | exact sz_3 (by decide) (by assumption) (by decide) | exact sz_t (by assumption) (by assumption) | omega)).mono ?_); rintro e w1 ⟨rfl, hP1, hK1⟩; have hb1 := hid' (hK1.box hb0.out); obtain ⟨y10, y11, y12, y13, y14, y15⟩ := box_cells hb1.out; have hl1 : b0 < w1.heap.size := Nat.lt_of_lt_of_le hlt hP1.bel.size; obtain ⟨d100, d101, d102, d103, d104, d105⟩ := HC0.out w1 hP1.bel; (try simp only [Nat.zero_mul, Nat.add_zero, Nat.one_mul, Nat.reduceMul, Nat.add_assoc, Nat.reduceAdd] at d100 d101 d102 d103 d104 d105); replace hP1 := hid' hP1; replace hK1 := hid' (hK0.out.trans hK1)))
  go_end0
  refine ⟨rfl, hP3.out.cast ?_, hK3.out⟩
  simp [lst_app, lst_lit, List.append_assoc]

set_option maxHeartbeats 8000000 in
set_option maxRecDepth 20000 in
theorem li37_55_0 {w0 : World} {tb : Nat} {str : ByteArray} {num pos : Int} {flag : Bool} {ka : Option Addr} {kn kc : Nat} (hs : str.size ≤ 1048576) :
    Ex 37 w0 tb ⟨55, str, num, flag, pos⟩ (.slice (ka) 0 kc) ([114, 101, 116, 117, 114, 110] ++ [59, 10]) := fun F W hP => by
  have hP0 := hid' (hP.box (.cells #[.int .i64 55, .string str, .int .u32 num, .bool flag, .slice (ka) 0 kc, .int .i64 pos] 25))
  have hb0 := hid' (heap_alloc_new W (.cells #[.int .i64 55, .string str, .int .u32 num, .bool flag, .slice (ka) 0 kc, .int .i64 pos] 25))
  have hK0 : Hid (KT w0.heap.size W (W.alloc (.cells #[.int .i64 55, .string str, .int .u32 num, .bool flag, .slice (ka) 0 kc, .int .i64 pos] 25))) := KT.of_below (below1 _ _)
  clear hP
  try unfold Ex at *
  try unfold ExAt at *
  unfold ndV at *
  go_enter Tryz.func37, Tryz.ntmps37
  go_wp2_with (first
    | (go_at_call 59; (with_reducible refine (put59 hP1.out _ (by first | decide | exact sz_1 (by assumption) | exact sz_l (by decide) (by assumption) | exact sz_r (by assumption) (by decide) | exact sz_3 (by decide) (by assumption) (by decide) | exact sz_t (by assumption) (by assumption) | omega)).mono ?_); rintro e w2 ⟨rfl, hP2, hK2⟩; have hb2 := hid' (hK2.box hb1.out); obtain ⟨y20, y21, y22, y23, y24, y25⟩ := box_cells hb2.out; replace hP2 := hid' hP2; replace hK2 := hid' (hK1.out.trans hK2))
    | (go_at_call 59; (with_reducible refine (put59 hP0.out _ (by first | decide | exact sz_1 (by assumption) | exact sz_l (by decide) (by assumption) | exact sz_r (by assumption) (by decide) | exact sz_3 (by decide) (by assumption) (by decide) | exact sz_t (by assumption) (by assumption) | omega)).mono ?_); rintro e w1 ⟨rfl, hP1, hK1⟩; have hb1 := hid' (hK1.box hb0.out); obtain ⟨y10, y11, y12, y13, y14, y15⟩ := box_cells hb1.out; replace hP1 := hid' hP1; replace hK1 := hid' (hK0.out.trans hK1)))
  go_end0
  refine ⟨rfl, hP2.out.cast ?_, hK2.out⟩
  simp [lst_app, lst_lit, List.append_assoc]

set_option maxHeartbeats 8000000 in
set_option maxRecDepth 20000 in
theorem li37_55_1 {w0 : World} {tb : Nat} {str : ByteArray} {num pos : Int} {flag : Bool} {b0 o0 kn kc : Nat} (hlt : b0 < w0.heap.size) (hs : str.size ≤ 1048576) {t0 : Tr} {x0 : NdH} {kv0 : Value} (hc0 : NdAt w0 b0 (o0 + 0 * 6) x0 kv0){A0 : List UInt8} (hA0 : ExAt w0 tb x0 kv0 0 A0) :
    Ex 37 w0 tb ⟨55, str, num, flag, pos⟩ (.slice (some ⟨b0, o0, none⟩) 1 kc) ([114, 101, 116, 117, 114, 110] ++ ([32] ++ (A0 ++ [59, 10]))) := fun F W hP => by
  have hP0 := hid' (hP.box (.cells #[.int .i64 55, .string str, .int .u32 num, .bool flag, .slice (some ⟨b0, o0, none⟩) 1 kc, .int .i64 pos] 25))
  have hb0 := hid' (heap_alloc_new W (.cells #[.int .i64 55, .string str, .int .u32 num, .bool flag, .slice (some ⟨b0, o0, none⟩) 1 kc, .int .i64 pos] 25))
  have hK0 : Hid (KT w0.heap.size W (W.alloc (.cells #[.int .i64 55, .string str, .int .u32 num, .bool flag, .slice (some ⟨b0, o0, none⟩) 1 kc, .int .i64 pos] 25))) := KT.of_below (below1 _ _)
  have hlW : b0 < W.heap.size := Nat.lt_of_lt_of_le hlt hP.bel.size
  have HC0 : Hid (∀ W', Below w0.heap.size w0 W' → NdAt W' b0 (o0 + 0 * 6) x0 kv0) := fun W' hb => nd_below hc0 hb hlt
  obtain ⟨c00, c01, c02, c03, c04, c05⟩ := HC0.out W hP.bel
  clear hc0
  clear hP
  try unfold Ex at *
  try unfold ExAt at *
  unfold ndV at *
  try simp only [Nat.zero_mul, Nat.add_zero, Nat.one_mul, Nat.reduceMul, Nat.add_assoc, Nat.reduceAdd] at c00 c01 c02 c03 c04 c05
  go_enter Tryz.func37, Tryz.ntmps37
  go_wp2_with (first
    | (go_at_call 59; (with_reducible refine (put59 hP3.out _ (by first | decide | exact sz_1 (by assumption) | exact sz_l (by decide) (by assumption) | exact sz_r (by assumption) (by decide) | exact sz_3 (by decide) (by assumption) (by decide) | exact sz_t (by assumption) (by assumption) | omega)).mono ?_); rintro e w4 ⟨rfl, hP4, hK4⟩; have hb4 := hid' (hK4.box hb3.out); obtain ⟨y40, y41, y42, y43, y44, y45⟩ := box_cells hb4.out; replace hP4 := hid' hP4; replace hK4 := hid' (hK3.out.trans hK4))
    | (go_at_call 62; (with_reducible refine (hA0 _ _ hP2.out).mono ?_); rintro e w3 ⟨rfl, hP3, hK3⟩; have hb3 := hid' (hK3.box hb2.out); obtain ⟨y30, y31, y32, y33, y34, y35⟩ := box_cells hb3.out; replace hP3 := hid' hP3; replace hK3 := hid' (hK2.out.trans hK3))
    | (go_at_call 59; (with_reducible refine (put59 hP1.out _ (by first | decide | exact sz_1 (by assumption) | exact sz_l (by decide) (by assumption) | exact sz_r (by assumption) (by decide) | exact sz_3 (by decide) (by assumption) (by decide) | exact sz_t (by assumption) (by assumption) | omega)).mono ?_); rintro e w2 ⟨rfl, hP2, hK2⟩; have hb2 := hid' (hK2.box hb1.out); obtain ⟨y20, y21, y22, y23, y24, y25⟩ := box_cells hb2.out; have hl2 : b0 < w2.heap.size := Nat.lt_of_lt_of_le hlt hP2.bel.size; obtain ⟨d200, d201, d202, d203, d204, d205⟩ := HC0.out w2 hP2.bel; (try simp only [Nat.zero_mul, Nat.add_zero, Nat.one_mul, Nat.reduceMul, Nat.add_assoc, Nat.reduceAdd] at d200 d201 d202 d203 d204 d205); replace hP2 := hid' hP2; replace hK2 := hid' (hK1.out.trans hK2))
    | (go_at_call 59; (with_reducible refine (put59 hP0.out _ (by first | decide | exact sz_1 (by assumption) | exact sz_l (by decide) (by assumption) | exact sz_r (by assumption) (by decide) | exact sz_3 (by decide) (by assumption) (by decide) | exact sz_t (by assumption) (by assumption) | omega)).mono ?_); rintro e w1 ⟨rfl, hP1, hK1⟩; have hb1 := hid' (hK1.box hb0.out); obtain ⟨y10, y11, y12, y13, y14, y15⟩ := box_cells hb1.out; replace hP1 := hid' hP1; replace hK1 := hid' (hK0.out.trans hK1)))
  go_end0
  refine ⟨rfl, hP4.out.cast ?_, hK4.out⟩
  simp [lst_app, lst_lit, List.append_assoc]

end Go.Proofs.YtnnnfabpceapcaaGreatDoor

namespace Go.Proofs.YtnnnfabpceapcaaGreatDoor
set_option linter.unusedSimpArgs false
open Go.RowKit
set_option linter.unusedVariables false
set_option linter.unusedSimpArgs false

set_option maxHeartbeats 8000000 in
set_option maxRecDepth 20000 in
theorem de60_n0 {w0 : World} {tb : Nat} {str : ByteArray} {num pos : Int} {ka : Option Addr} {kn kc : Nat} (hs : str.size ≤ 1048576) :
    Ex 60 w0 tb ⟨43, str, num, false, pos⟩ (.slice (ka) 0 kc) (lst str) := fun F W hP => by
  have hP0 := hid' (hP.box (.cells #[.int .i64 43, .string str, .int .u32 num, .bool false, .slice (ka) 0 kc, .int .i64 pos] 25))
  have hb0 := hid' (heap_alloc_new W (.cells #[.int .i64 43, .string str, .int .u32 num, .bool false, .slice (ka) 0 kc, .int .i64 pos] 25))
  have hK0 : Hid (KT w0.heap.size W (W.alloc (.cells #[.int .i64 43, .string str, .int .u32 num, .bool false, .slice (ka) 0 kc, .int .i64 pos] 25))) := KT.of_below (below1 _ _)
  clear hP
  try unfold Ex at *
  try unfold ExAt at *
  unfold ndV at *
  go_enter Tryz.func60, Tryz.ntmps60
  go_wp2_with (first
    | (go_at_call 59; (with_reducible refine (put59 hP0.out _ (by first | decide | exact sz_1 (by assumption) | exact sz_l (by decide) (by assumption) | exact sz_r (by assumption) (by decide) | exact sz_3 (by decide) (by assumption) (by decide) | exact sz_t (by assumption) (by assumption) | omega)).mono ?_); rintro e w1 ⟨rfl, hP1, hK1⟩; have hb1 := hid' (hK1.box hb0.out); obtain ⟨y10, y11, y12, y13, y14, y15⟩ := box_cells hb1.out; replace hP1 := hid' hP1; replace hK1 := hid' (hK0.out.trans hK1)))
  all_goals (refine bodyPost_ret (v := .tuple #[]) (by simp [results, Tryz.results60, go_sem]) rfl ⟨rfl, hP1.out.cast ?_, hK1.out⟩; rfl)

set_option maxHeartbeats 8000000 in
set_option maxRecDepth 20000 in
theorem de60_n1 {w0 : World} {tb : Nat} {str : ByteArray} {num pos : Int} {b0 o0 kn kc : Nat} (hlt : b0 < w0.heap.size) (hs : str.size ≤ 1048576) {t0 : Tr} {x0 : NdH} {kv0 : Value} (hc0 : NdAt w0 b0 (o0 + 0 * 6) x0 kv0){A0 : List UInt8} (hk044 : ¬ x0.kind = 44) (hA0 : ExAt w0 tb x0 kv0 0 A0) :
    Ex 60 w0 tb ⟨43, str, num, false, pos⟩ (.slice (some ⟨b0, o0, none⟩) 1 kc) (lst str ++ ([32, 61, 32] ++ A0)) := fun F W hP => by
  have hP0 := hid' (hP.box (.cells #[.int .i64 43, .string str, .int .u32 num, .bool false, .slice (some ⟨b0, o0, none⟩) 1 kc, .int .i64 pos] 25))
  have hb0 := hid' (heap_alloc_new W (.cells #[.int .i64 43, .string str, .int .u32 num, .bool false, .slice (some ⟨b0, o0, none⟩) 1 kc, .int .i64 pos] 25))
  have hK0 : Hid (KT w0.heap.size W (W.alloc (.cells #[.int .i64 43, .string str, .int .u32 num, .bool false, .slice (some ⟨b0, o0, none⟩) 1 kc, .int .i64 pos] 25))) := KT.of_below (below1 _ _)
  have hlW : b0 < W.heap.size := Nat.lt_of_lt_of_le hlt hP.bel.size
  have HC0 : Hid (∀ W', Below w0.heap.size w0 W' → NdAt W' b0 (o0 + 0 * 6) x0 kv0) := fun W' hb => nd_below hc0 hb hlt
  obtain ⟨c00, c01, c02, c03, c04, c05⟩ := HC0.out W hP.bel
  clear hc0
  clear hP
  try unfold Ex at *
  try unfold ExAt at *
  unfold ndV at *
  try simp only [Nat.zero_mul, Nat.add_zero, Nat.one_mul, Nat.reduceMul, Nat.add_assoc, Nat.reduceAdd] at c00 c01 c02 c03 c04 c05
  go_enter Tryz.func60, Tryz.ntmps60
  go_wp2_with (first
    | (go_at_call 62; (with_reducible refine (hA0 _ _ hP2.out).mono ?_); rintro e w3 ⟨rfl, hP3, hK3⟩; have hb3 := hid' (hK3.box hb2.out); obtain ⟨y30, y31, y32, y33, y34, y35⟩ := box_cells hb3.out; replace hP3 := hid' hP3; replace hK3 := hid' (hK2.out.trans hK3))
    | (go_at_call 59; (with_reducible refine (put59 hP1.out _ (by first | decide | exact sz_1 (by assumption) | exact sz_l (by decide) (by assumption) | exact sz_r (by assumption) (by decide) | exact sz_3 (by decide) (by assumption) (by decide) | exact sz_t (by assumption) (by assumption) | omega)).mono ?_); rintro e w2 ⟨rfl, hP2, hK2⟩; have hb2 := hid' (hK2.box hb1.out); obtain ⟨y20, y21, y22, y23, y24, y25⟩ := box_cells hb2.out; have hl2 : b0 < w2.heap.size := Nat.lt_of_lt_of_le hlt hP2.bel.size; obtain ⟨d200, d201, d202, d203, d204, d205⟩ := HC0.out w2 hP2.bel; (try simp only [Nat.zero_mul, Nat.add_zero, Nat.one_mul, Nat.reduceMul, Nat.add_assoc, Nat.reduceAdd] at d200 d201 d202 d203 d204 d205); replace hP2 := hid' hP2; replace hK2 := hid' (hK1.out.trans hK2))
    | (go_at_call 59; (with_reducible refine (put59 hP0.out _ (by first | decide | exact sz_1 (by assumption) | exact sz_l (by decide) (by assumption) | exact sz_r (by assumption) (by decide) | exact sz_3 (by decide) (by assumption) (by decide) | exact sz_t (by assumption) (by assumption) | omega)).mono ?_); rintro e w1 ⟨rfl, hP1, hK1⟩; have hb1 := hid' (hK1.box hb0.out); obtain ⟨y10, y11, y12, y13, y14, y15⟩ := box_cells hb1.out; replace hP1 := hid' hP1; replace hK1 := hid' (hK0.out.trans hK1)))
  all_goals (refine bodyPost_ret (v := .tuple #[]) (by simp [results, Tryz.results60, go_sem]) rfl ⟨rfl, hP3.out.cast ?_, hK3.out⟩; simp [lst_app, lst_lit, List.append_assoc])

set_option maxHeartbeats 8000000 in
set_option maxRecDepth 20000 in
theorem de60_f1n {w0 : World} {tb : Nat} {str : ByteArray} {num pos : Int} {b0 o0 kn kc : Nat} (hlt : b0 < w0.heap.size) (hs : str.size ≤ 1048576) {t0 : Tr} {x0 : NdH} {kv0 : Value} (hc0 : NdAt w0 b0 (o0 + 0 * 6) x0 kv0) (hk056 : x0.kind = 56) (hcap : 1 ≤ kc) :
    Ex 60 w0 tb ⟨43, str, num, true, pos⟩ (.slice (some ⟨b0, o0, none⟩) 1 kc) (lst str ++ ([91] ++ [93])) := fun F W hP => by
  have hP0 := hid' (hP.box (.cells #[.int .i64 43, .string str, .int .u32 num, .bool true, .slice (some ⟨b0, o0, none⟩) 1 kc, .int .i64 pos] 25))
  have hb0 := hid' (heap_alloc_new W (.cells #[.int .i64 43, .string str, .int .u32 num, .bool true, .slice (some ⟨b0, o0, none⟩) 1 kc, .int .i64 pos] 25))
  have hK0 : Hid (KT w0.heap.size W (W.alloc (.cells #[.int .i64 43, .string str, .int .u32 num, .bool true, .slice (some ⟨b0, o0, none⟩) 1 kc, .int .i64 pos] 25))) := KT.of_below (below1 _ _)
  have hlW : b0 < W.heap.size := Nat.lt_of_lt_of_le hlt hP.bel.size
  have HC0 : Hid (∀ W', Below w0.heap.size w0 W' → NdAt W' b0 (o0 + 0 * 6) x0 kv0) := fun W' hb => nd_below hc0 hb hlt
  obtain ⟨c00, c01, c02, c03, c04, c05⟩ := HC0.out W hP.bel
  clear hc0
  clear hP
  try unfold Ex at *
  try unfold ExAt at *
  unfold ndV at *
  try simp only [Nat.zero_mul, Nat.add_zero, Nat.one_mul, Nat.reduceMul, Nat.add_assoc, Nat.reduceAdd] at c00 c01 c02 c03 c04 c05
  go_enter Tryz.func60, Tryz.ntmps60
  go_wp2_with (first
    | (go_at_call 59; (with_reducible refine (put59 hP2.out _ (by first | decide | exact sz_1 (by assumption) | exact sz_l (by decide) (by assumption) | exact sz_r (by assumption) (by decide) | exact sz_3 (by decide) (by assumption) (by decide) | exact sz_t (by assumption) (by assumption) | omega)).mono ?_); rintro e w3 ⟨rfl, hP3, hK3⟩; have hb3 := hid' (hK3.box hb2.out); obtain ⟨y30, y31, y32, y33, y34, y35⟩ := box_cells hb3.out; replace hP3 := hid' hP3; replace hK3 := hid' (hK2.out.trans hK3))
    | (go_at_call 59; (with_reducible refine (put59 hP1.out _ (by first | decide | exact sz_1 (by assumption) | exact sz_l (by decide) (by assumption) | exact sz_r (by assumption) (by decide) | exact sz_3 (by decide) (by assumption) (by decide) | exact sz_t (by assumption) (by assumption) | omega)).mono ?_); rintro e w2 ⟨rfl, hP2, hK2⟩; have hb2 := hid' (hK2.box hb1.out); obtain ⟨y20, y21, y22, y23, y24, y25⟩ := box_cells hb2.out; have hl2 : b0 < w2.heap.size := Nat.lt_of_lt_of_le hlt hP2.bel.size; obtain ⟨d200, d201, d202, d203, d204, d205⟩ := HC0.out w2 hP2.bel; (try simp only [Nat.zero_mul, Nat.add_zero, Nat.one_mul, Nat.reduceMul, Nat.add_assoc, Nat.reduceAdd] at d200 d201 d202 d203 d204 d205); replace hP2 := hid' hP2; replace hK2 := hid' (hK1.out.trans hK2))
    | (go_at_call 59; (with_reducible refine (put59 hP0.out _ (by first | decide | exact sz_1 (by assumption) | exact sz_l (by decide) (by assumption) | exact sz_r (by assumption) (by decide) | exact sz_3 (by decide) (by assumption) (by decide) | exact sz_t (by assumption) (by assumption) | omega)).mono ?_); rintro e w1 ⟨rfl, hP1, hK1⟩; have hb1 := hid' (hK1.box hb0.out); obtain ⟨y10, y11, y12, y13, y14, y15⟩ := box_cells hb1.out; replace hP1 := hid' hP1; replace hK1 := hid' (hK0.out.trans hK1)))
  all_goals (refine bodyPost_ret (v := .tuple #[]) (by simp [results, Tryz.results60, go_sem]) rfl ⟨rfl, hP3.out.cast ?_, hK3.out⟩; simp [lst_app, lst_lit, List.append_assoc])

set_option maxHeartbeats 8000000 in
set_option maxRecDepth 20000 in
theorem de60_f2ne {w0 : World} {tb : Nat} {str : ByteArray} {num pos : Int} {b0 o0 kn kc : Nat} (hlt : b0 < w0.heap.size) (hs : str.size ≤ 1048576) {t0 : Tr} {x0 : NdH} {kv0 : Value} (hc0 : NdAt w0 b0 (o0 + 0 * 6) x0 kv0) {t1 : Tr} {x1 : NdH} {kv1 : Value} (hc1 : NdAt w0 b0 (o0 + 1 * 6) x1 kv1) (hk056 : x0.kind = 56) {A1 : List UInt8} (hk144 : ¬ x1.kind = 44) (hA1 : ExAt w0 tb x1 kv1 0 A1) (hcap : 2 ≤ kc) :
    Ex 60 w0 tb ⟨43, str, num, true, pos⟩ (.slice (some ⟨b0, o0, none⟩) 2 kc) (lst str ++ ([91] ++ ([93] ++ ([32, 61, 32] ++ A1)))) := fun F W hP => by
  have hP0 := hid' (hP.box (.cells #[.int .i64 43, .string str, .int .u32 num, .bool true, .slice (some ⟨b0, o0, none⟩) 2 kc, .int .i64 pos] 25))
  have hb0 := hid' (heap_alloc_new W (.cells #[.int .i64 43, .string str, .int .u32 num, .bool true, .slice (some ⟨b0, o0, none⟩) 2 kc, .int .i64 pos] 25))
  have hK0 : Hid (KT w0.heap.size W (W.alloc (.cells #[.int .i64 43, .string str, .int .u32 num, .bool true, .slice (some ⟨b0, o0, none⟩) 2 kc, .int .i64 pos] 25))) := KT.of_below (below1 _ _)
  have hlW : b0 < W.heap.size := Nat.lt_of_lt_of_le hlt hP.bel.size
  have HC0 : Hid (∀ W', Below w0.heap.size w0 W' → NdAt W' b0 (o0 + 0 * 6) x0 kv0) := fun W' hb => nd_below hc0 hb hlt
  have HC1 : Hid (∀ W', Below w0.heap.size w0 W' → NdAt W' b0 (o0 + 1 * 6) x1 kv1) := fun W' hb => nd_below hc1 hb hlt
  obtain ⟨c00, c01, c02, c03, c04, c05⟩ := HC0.out W hP.bel
  obtain ⟨c10, c11, c12, c13, c14, c15⟩ := HC1.out W hP.bel
  clear hc0
  clear hc1
  clear hP
  try unfold Ex at *
  try unfold ExAt at *
  unfold ndV at *
  try simp only [Nat.zero_mul, Nat.add_zero, Nat.one_mul, Nat.reduceMul, Nat.add_assoc, Nat.reduceAdd] at c00 c01 c02 c03 c04 c05
  try simp only [Nat.zero_mul, Nat.add_zero, Nat.one_mul, Nat.reduceMul, Nat.add_assoc, Nat.reduceAdd] at c10 c11 c12 c13 c14 c15
  go_enter Tryz.func60, Tryz.ntmps60
  go_wp2_with (first
    | (go_at_call 62; (with_reducible refine (hA1 _ _ hP4.out).mono ?_); rintro e w5 ⟨rfl, hP5, hK5⟩; have hb5 := hid' (hK5.box hb4.out); obtain ⟨y50, y51, y52, y53, y54, y55⟩ := box_cells hb5.out; replace hP5 := hid' hP5; replace hK5 := hid' (hK4.out.trans hK5))
    | (go_at_call 59; (with_reducible refine (put59 hP3.out _ (by first | decide | exact sz_1 (by assumption) | exact sz_l (by decide) (by assumption) | exact sz_r (by assumption) (by decide) | exact sz_3 (by decide) (by assumption) (by decide) | exact sz_t (by assumption) (by assumption) | omega)).mono ?_); rintro e w4 ⟨rfl, hP4, hK4⟩; have hb4 := hid' (hK4.box hb3.out); obtain ⟨y40, y41, y42, y43, y44, y45⟩ := box_cells hb4.out; have hl4 : b0 < w4.heap.size := Nat.lt_of_lt_of_le hlt hP4.bel.size; obtain ⟨d410, d411, d412, d413, d414, d415⟩ := HC1.out w4 hP4.bel; (try simp only [Nat.zero_mul, Nat.add_zero, Nat.one_mul, Nat.reduceMul, Nat.add_assoc, Nat.reduceAdd] at d410 d411 d412 d413 d414 d415); replace hP4 := hid' hP4; replace hK4 := hid' (hK3.out.trans hK4))
    | (go_at_call 59; (with_reducible refine (put59 hP2.out _ (by first | decide | exact sz_1 (by assumption) | exact sz_l (by decide) (by assumption) | exact sz_r (by assumption) (by decide) | exact sz_3 (by decide) (by assumption) (by decide) | exact sz_t (by assumption) (by assumption) | omega)).mono ?_); rintro e w3 ⟨rfl, hP3, hK3⟩; have hb3 := hid' (hK3.box hb2.out); obtain ⟨y30, y31, y32, y33, y34, y35⟩ := box_cells hb3.out; replace hP3 := hid' hP3; replace hK3 := hid' (hK2.out.trans hK3))
    | (go_at_call 59; (with_reducible refine (put59 hP1.out _ (by first | decide | exact sz_1 (by assumption) | exact sz_l (by decide) (by assumption) | exact sz_r (by assumption) (by decide) | exact sz_3 (by decide) (by assumption) (by decide) | exact sz_t (by assumption) (by assumption) | omega)).mono ?_); rintro e w2 ⟨rfl, hP2, hK2⟩; have hb2 := hid' (hK2.box hb1.out); obtain ⟨y20, y21, y22, y23, y24, y25⟩ := box_cells hb2.out; have hl2 : b0 < w2.heap.size := Nat.lt_of_lt_of_le hlt hP2.bel.size; obtain ⟨d200, d201, d202, d203, d204, d205⟩ := HC0.out w2 hP2.bel; (try simp only [Nat.zero_mul, Nat.add_zero, Nat.one_mul, Nat.reduceMul, Nat.add_assoc, Nat.reduceAdd] at d200 d201 d202 d203 d204 d205); replace hP2 := hid' hP2; replace hK2 := hid' (hK1.out.trans hK2))
    | (go_at_call 59; (with_reducible refine (put59 hP0.out _ (by first | decide | exact sz_1 (by assumption) | exact sz_l (by decide) (by assumption) | exact sz_r (by assumption) (by decide) | exact sz_3 (by decide) (by assumption) (by decide) | exact sz_t (by assumption) (by assumption) | omega)).mono ?_); rintro e w1 ⟨rfl, hP1, hK1⟩; have hb1 := hid' (hK1.box hb0.out); obtain ⟨y10, y11, y12, y13, y14, y15⟩ := box_cells hb1.out; replace hP1 := hid' hP1; replace hK1 := hid' (hK0.out.trans hK1)))
  all_goals (refine bodyPost_ret (v := .tuple #[]) (by simp [results, Tryz.results60, go_sem]) rfl ⟨rfl, hP5.out.cast ?_, hK5.out⟩; simp [lst_app, lst_lit, List.append_assoc])

set_option maxHeartbeats 8000000 in
set_option maxRecDepth 20000 in
theorem de60_f2nl {w0 : World} {tb : Nat} {str : ByteArray} {num pos : Int} {b0 o0 kn kc : Nat} (hlt : b0 < w0.heap.size) (hs : str.size ≤ 1048576) {t0 : Tr} {x0 : NdH} {kv0 : Value} (hc0 : NdAt w0 b0 (o0 + 0 * 6) x0 kv0) {t1 : Tr} {x1 : NdH} {kv1 : Value} (hc1 : NdAt w0 b0 (o0 + 1 * 6) x1 kv1) (hk056 : x0.kind = 56) {a1 : Option Addr} {c1 : Nat} {ks : List Tr} (hl : ks.length ≤ 9223372036854775807) (hk : ∀ i (hi : i < ks.length), KidX w0 tb a1 ks[i] i) (hv : kv1 = .slice a1 ks.length c1) (hk144 : x1.kind = 44) (hcap : 2 ≤ kc) :
    Ex 60 w0 tb ⟨43, str, num, true, pos⟩ (.slice (some ⟨b0, o0, none⟩) 2 kc) (lst str ++ ([91] ++ ([93] ++ ([32, 61, 32] ++ ([123] ++ (joinL [44, 32] (ks.map (spellT qtL)) ++ [125])))))) := fun F W hP => by
  have hP0 := hid' (hP.box (.cells #[.int .i64 43, .string str, .int .u32 num, .bool true, .slice (some ⟨b0, o0, none⟩) 2 kc, .int .i64 pos] 25))
  have hb0 := hid' (heap_alloc_new W (.cells #[.int .i64 43, .string str, .int .u32 num, .bool true, .slice (some ⟨b0, o0, none⟩) 2 kc, .int .i64 pos] 25))
  have hK0 : Hid (KT w0.heap.size W (W.alloc (.cells #[.int .i64 43, .string str, .int .u32 num, .bool true, .slice (some ⟨b0, o0, none⟩) 2 kc, .int .i64 pos] 25))) := KT.of_below (below1 _ _)
  have hlW : b0 < W.heap.size := Nat.lt_of_lt_of_le hlt hP.bel.size
  have HC0 : Hid (∀ W', Below w0.heap.size w0 W' → NdAt W' b0 (o0 + 0 * 6) x0 kv0) := fun W' hb => nd_below hc0 hb hlt
  have HC1 : Hid (∀ W', Below w0.heap.size w0 W' → NdAt W' b0 (o0 + 1 * 6) x1 kv1) := fun W' hb => nd_below hc1 hb hlt
  obtain ⟨c00, c01, c02, c03, c04, c05⟩ := HC0.out W hP.bel
  obtain ⟨c10, c11, c12, c13, c14, c15⟩ := HC1.out W hP.bel
  clear hc0
  clear hc1
  clear hP
  subst hv
  try unfold Ex at *
  try unfold ExAt at *
  unfold ndV at *
  try simp only [Nat.zero_mul, Nat.add_zero, Nat.one_mul, Nat.reduceMul, Nat.add_assoc, Nat.reduceAdd] at c00 c01 c02 c03 c04 c05
  try simp only [Nat.zero_mul, Nat.add_zero, Nat.one_mul, Nat.reduceMul, Nat.add_assoc, Nat.reduceAdd] at c10 c11 c12 c13 c14 c15
  go_enter Tryz.func60, Tryz.ntmps60
  go_wp2_with (first
    | (go_at_call 59; (with_reducible refine (put59 hP6.out _ (by first | decide | exact sz_1 (by assumption) | exact sz_l (by decide) (by assumption) | exact sz_r (by assumption) (by decide) | exact sz_3 (by decide) (by assumption) (by decide) | exact sz_t (by assumption) (by assumption) | omega)).mono ?_); rintro e w7 ⟨rfl, hP7, hK7⟩; have hb7 := hid' (hK7.box hb6.out); obtain ⟨y70, y71, y72, y73, y74, y75⟩ := box_cells hb7.out; replace hP7 := hid' hP7; replace hK7 := hid' (hK6.out.trans hK7))
    | (go_at_call 92; (with_reducible refine (list92 hl hP5.out hk).mono ?_); rintro e w6 ⟨rfl, hP6, hK6⟩; have hb6 := hid' (hK6.box hb5.out); obtain ⟨y60, y61, y62, y63, y64, y65⟩ := box_cells hb6.out; replace hP6 := hid' hP6; replace hK6 := hid' (hK5.out.trans hK6))
    | (go_at_call 59; (with_reducible refine (put59 hP4.out _ (by first | decide | exact sz_1 (by assumption) | exact sz_l (by decide) (by assumption) | exact sz_r (by assumption) (by decide) | exact sz_3 (by decide) (by assumption) (by decide) | exact sz_t (by assumption) (by assumption) | omega)).mono ?_); rintro e w5 ⟨rfl, hP5, hK5⟩; have hb5 := hid' (hK5.box hb4.out); obtain ⟨y50, y51, y52, y53, y54, y55⟩ := box_cells hb5.out; have hl5 : b0 < w5.heap.size := Nat.lt_of_lt_of_le hlt hP5.bel.size; obtain ⟨d510, d511, d512, d513, d514, d515⟩ := HC1.out w5 hP5.bel; (try simp only [Nat.zero_mul, Nat.add_zero, Nat.one_mul, Nat.reduceMul, Nat.add_assoc, Nat.reduceAdd] at d510 d511 d512 d513 d514 d515); replace hP5 := hid' hP5; replace hK5 := hid' (hK4.out.trans hK5))
    | (go_at_call 59; (with_reducible refine (put59 hP3.out _ (by first | decide | exact sz_1 (by assumption) | exact sz_l (by decide) (by assumption) | exact sz_r (by assumption) (by decide) | exact sz_3 (by decide) (by assumption) (by decide) | exact sz_t (by assumption) (by assumption) | omega)).mono ?_); rintro e w4 ⟨rfl, hP4, hK4⟩; have hb4 := hid' (hK4.box hb3.out); obtain ⟨y40, y41, y42, y43, y44, y45⟩ := box_cells hb4.out; have hl4 : b0 < w4.heap.size := Nat.lt_of_lt_of_le hlt hP4.bel.size; obtain ⟨d410, d411, d412, d413, d414, d415⟩ := HC1.out w4 hP4.bel; (try simp only [Nat.zero_mul, Nat.add_zero, Nat.one_mul, Nat.reduceMul, Nat.add_assoc, Nat.reduceAdd] at d410 d411 d412 d413 d414 d415); replace hP4 := hid' hP4; replace hK4 := hid' (hK3.out.trans hK4))
    | (go_at_call 59; (with_reducible refine (put59 hP2.out _ (by first | decide | exact sz_1 (by assumption) | exact sz_l (by decide) (by assumption) | exact sz_r (by assumption) (by decide) | exact sz_3 (by decide) (by assumption) (by decide) | exact sz_t (by assumption) (by assumption) | omega)).mono ?_); rintro e w3 ⟨rfl, hP3, hK3⟩; have hb3 := hid' (hK3.box hb2.out); obtain ⟨y30, y31, y32, y33, y34, y35⟩ := box_cells hb3.out; replace hP3 := hid' hP3; replace hK3 := hid' (hK2.out.trans hK3))
    | (go_at_call 59; (with_reducible refine (put59 hP1.out _ (by first | decide | exact sz_1 (by assumption) | exact sz_l (by decide) (by assumption) | exact sz_r (by assumption) (by decide) | exact sz_3 (by decide) (by assumption) (by decide) | exact sz_t (by assumption) (by assumption) | omega)).mono ?_); rintro e w2 ⟨rfl, hP2, hK2⟩; have hb2 := hid' (hK2.box hb1.out); obtain ⟨y20, y21, y22, y23, y24, y25⟩ := box_cells hb2.out; have hl2 : b0 < w2.heap.size := Nat.lt_of_lt_of_le hlt hP2.bel.size; obtain ⟨d200, d201, d202, d203, d204, d205⟩ := HC0.out w2 hP2.bel; (try simp only [Nat.zero_mul, Nat.add_zero, Nat.one_mul, Nat.reduceMul, Nat.add_assoc, Nat.reduceAdd] at d200 d201 d202 d203 d204 d205); replace hP2 := hid' hP2; replace hK2 := hid' (hK1.out.trans hK2))
    | (go_at_call 59; (with_reducible refine (put59 hP0.out _ (by first | decide | exact sz_1 (by assumption) | exact sz_l (by decide) (by assumption) | exact sz_r (by assumption) (by decide) | exact sz_3 (by decide) (by assumption) (by decide) | exact sz_t (by assumption) (by assumption) | omega)).mono ?_); rintro e w1 ⟨rfl, hP1, hK1⟩; have hb1 := hid' (hK1.box hb0.out); obtain ⟨y10, y11, y12, y13, y14, y15⟩ := box_cells hb1.out; replace hP1 := hid' hP1; replace hK1 := hid' (hK0.out.trans hK1)))
  go_end0
  refine ⟨rfl, hP7.out.cast ?_, hK7.out⟩
  simp [lst_app, lst_lit, List.append_assoc]

set_option maxHeartbeats 8000000 in
set_option maxRecDepth 20000 in
theorem de60_f1e {w0 : World} {tb : Nat} {str : ByteArray} {num pos : Int} {b0 o0 kn kc : Nat} (hlt : b0 < w0.heap.size) (hs : str.size ≤ 1048576) {t0 : Tr} {x0 : NdH} {kv0 : Value} (hc0 : NdAt w0 b0 (o0 + 0 * 6) x0 kv0){A0 : List UInt8} (hk056 : ¬ x0.kind = 56) (hA0 : ExAt w0 tb x0 kv0 0 A0) (hcap : 1 ≤ kc) :
    Ex 60 w0 tb ⟨43, str, num, true, pos⟩ (.slice (some ⟨b0, o0, none⟩) 1 kc) (lst str ++ ([91] ++ (A0 ++ [93]))) := fun F W hP => by
  have hP0 := hid' (hP.box (.cells #[.int .i64 43, .string str, .int .u32 num, .bool true, .slice (some ⟨b0, o0, none⟩) 1 kc, .int .i64 pos] 25))
  have hb0 := hid' (heap_alloc_new W (.cells #[.int .i64 43, .string str, .int .u32 num, .bool true, .slice (some ⟨b0, o0, none⟩) 1 kc, .int .i64 pos] 25))
  have hK0 : Hid (KT w0.heap.size W (W.alloc (.cells #[.int .i64 43, .string str, .int .u32 num, .bool true, .slice (some ⟨b0, o0, none⟩) 1 kc, .int .i64 pos] 25))) := KT.of_below (below1 _ _)
  have hlW : b0 < W.heap.size := Nat.lt_of_lt_of_le hlt hP.bel.size
  have HC0 : Hid (∀ W', Below w0.heap.size w0 W' → NdAt W' b0 (o0 + 0 * 6) x0 kv0) := fun W' hb => nd_below hc0 hb hlt
  obtain ⟨c00, c01, c02, c03, c04, c05⟩ := HC0.out W hP.bel
  clear hc0
  clear hP
  try unfold Ex at *
  try unfold ExAt at *
  unfold ndV at *
  try simp only [Nat.zero_mul, Nat.add_zero, Nat.one_mul, Nat.reduceMul, Nat.add_assoc, Nat.reduceAdd] at c00 c01 c02 c03 c04 c05
  go_enter Tryz.func60, Tryz.ntmps60
  go_wp2_with (first
    | (go_at_call 59; (with_reducible refine (put59 hP3.out _ (by first | decide | exact sz_1 (by assumption) | exact sz_l (by decide) (by assumption) | exact sz_r (by assumption) (by decide) | exact sz_3 (by decide) (by assumption) (by decide) | exact sz_t (by assumption) (by assumption) | omega)).mono ?_); rintro e w4 ⟨rfl, hP4, hK4⟩; have hb4 := hid' (hK4.box hb3.out); obtain ⟨y40, y41, y42, y43, y44, y45⟩ := box_cells hb4.out; replace hP4 := hid' hP4; replace hK4 := hid' (hK3.out.trans hK4))
    | (go_at_call 62; (with_reducible refine (hA0 _ _ hP2.out).mono ?_); rintro e w3 ⟨rfl, hP3, hK3⟩; have hb3 := hid' (hK3.box hb2.out); obtain ⟨y30, y31, y32, y33, y34, y35⟩ := box_cells hb3.out; replace hP3 := hid' hP3; replace hK3 := hid' (hK2.out.trans hK3))
    | (go_at_call 59; (with_reducible refine (put59 hP1.out _ (by first | decide | exact sz_1 (by assumption) | exact sz_l (by decide) (by assumption) | exact sz_r (by assumption) (by decide) | exact sz_3 (by decide) (by assumption) (by decide) | exact sz_t (by assumption) (by assumption) | omega)).mono ?_); rintro e w2 ⟨rfl, hP2, hK2⟩; have hb2 := hid' (hK2.box hb1.out); obtain ⟨y20, y21, y22, y23, y24, y25⟩ := box_cells hb2.out; have hl2 : b0 < w2.heap.size := Nat.lt_of_lt_of_le hlt hP2.bel.size; obtain ⟨d200, d201, d202, d203, d204, d205⟩ := HC0.out w2 hP2.bel; (try simp only [Nat.zero_mul, Nat.add_zero, Nat.one_mul, Nat.reduceMul, Nat.add_assoc, Nat.reduceAdd] at d200 d201 d202 d203 d204 d205); replace hP2 := hid' hP2; replace hK2 := hid' (hK1.out.trans hK2))
    | (go_at_call 59; (with_reducible refine (put59 hP0.out _ (by first | decide | exact sz_1 (by assumption) | exact sz_l (by decide) (by assumption) | exact sz_r (by assumption) (by decide) | exact sz_3 (by decide) (by assumption) (by decide) | exact sz_t (by assumption) (by assumption) | omega)).mono ?_); rintro e w1 ⟨rfl, hP1, hK1⟩; have hb1 := hid' (hK1.box hb0.out); obtain ⟨y10, y11, y12, y13, y14, y15⟩ := box_cells hb1.out; replace hP1 := hid' hP1; replace hK1 := hid' (hK0.out.trans hK1)))
  all_goals (refine bodyPost_ret (v := .tuple #[]) (by simp [results, Tryz.results60, go_sem]) rfl ⟨rfl, hP4.out.cast ?_, hK4.out⟩; simp [lst_app, lst_lit, List.append_assoc])

set_option maxHeartbeats 8000000 in
set_option maxRecDepth 20000 in
theorem de60_f2ee {w0 : World} {tb : Nat} {str : ByteArray} {num pos : Int} {b0 o0 kn kc : Nat} (hlt : b0 < w0.heap.size) (hs : str.size ≤ 1048576) {t0 : Tr} {x0 : NdH} {kv0 : Value} (hc0 : NdAt w0 b0 (o0 + 0 * 6) x0 kv0) {t1 : Tr} {x1 : NdH} {kv1 : Value} (hc1 : NdAt w0 b0 (o0 + 1 * 6) x1 kv1){A0 : List UInt8} (hk056 : ¬ x0.kind = 56) (hA0 : ExAt w0 tb x0 kv0 0 A0) {A1 : List UInt8} (hk144 : ¬ x1.kind = 44) (hA1 : ExAt w0 tb x1 kv1 0 A1) (hcap : 2 ≤ kc) :
    Ex 60 w0 tb ⟨43, str, num, true, pos⟩ (.slice (some ⟨b0, o0, none⟩) 2 kc) (lst str ++ ([91] ++ (A0 ++ ([93] ++ ([32, 61, 32] ++ A1))))) := fun F W hP => by
  have hP0 := hid' (hP.box (.cells #[.int .i64 43, .string str, .int .u32 num, .bool true, .slice (some ⟨b0, o0, none⟩) 2 kc, .int .i64 pos] 25))
  have hb0 := hid' (heap_alloc_new W (.cells #[.int .i64 43, .string str, .int .u32 num, .bool true, .slice (some ⟨b0, o0, none⟩) 2 kc, .int .i64 pos] 25))
  have hK0 : Hid (KT w0.heap.size W (W.alloc (.cells #[.int .i64 43, .string str, .int .u32 num, .bool true, .slice (some ⟨b0, o0, none⟩) 2 kc, .int .i64 pos] 25))) := KT.of_below (below1 _ _)
  have hlW : b0 < W.heap.size := Nat.lt_of_lt_of_le hlt hP.bel.size
  have HC0 : Hid (∀ W', Below w0.heap.size w0 W' → NdAt W' b0 (o0 + 0 * 6) x0 kv0) := fun W' hb => nd_below hc0 hb hlt
  have HC1 : Hid (∀ W', Below w0.heap.size w0 W' → NdAt W' b0 (o0 + 1 * 6) x1 kv1) := fun W' hb => nd_below hc1 hb hlt
  obtain ⟨c00, c01, c02, c03, c04, c05⟩ := HC0.out W hP.bel
  obtain ⟨c10, c11, c12, c13, c14, c15⟩ := HC1.out W hP.bel
  clear hc0
  clear hc1
  clear hP
  try unfold Ex at *
  try unfold ExAt at *
  unfold ndV at *
  try simp only [Nat.zero_mul, Nat.add_zero, Nat.one_mul, Nat.reduceMul, Nat.add_assoc, Nat.reduceAdd] at c00 c01 c02 c03 c04 c05
  try simp only [Nat.zero_mul, Nat.add_zero, Nat.one_mul, Nat.reduceMul, Nat.add_assoc, Nat.reduceAdd] at c10 c11 c12 c13 c14 c15
  go_enter Tryz.func60, Tryz.ntmps60
  go_wp2_with (first
    | (go_at_call 62; (with_reducible refine (hA1 _ _ hP5.out).mono ?_); rintro e w6 ⟨rfl, hP6, hK6⟩; have hb6 := hid' (hK6.box hb5.out); obtain ⟨y60, y61, y62, y63, y64, y65⟩ := box_cells hb6.out; replace hP6 := hid' hP6; replace hK6 := hid' (hK5.out.trans hK6))
    | (go_at_call 59; (with_reducible refine (put59 hP4.out _ (by first | decide | exact sz_1 (by assumption) | exact sz_l (by decide) (by assumption) | exact sz_r (by assumption) (by decide) | exact sz_3 (by decide) (by assumption) (by decide) | exact sz_t (by assumption) (by assumption) | omega)).mono ?_); rintro e w5 ⟨rfl, hP5, hK5⟩; have hb5 := hid' (hK5.box hb4.out); obtain ⟨y50, y51, y52, y53, y54, y55⟩ := box_cells hb5.out; have hl5 : b0 < w5.heap.size := Nat.lt_of_lt_of_le hlt hP5.bel.size; obtain ⟨d510, d511, d512, d513, d514, d515⟩ := HC1.out w5 hP5.bel; (try simp only [Nat.zero_mul, Nat.add_zero, Nat.one_mul, Nat.reduceMul, Nat.add_assoc, Nat.reduceAdd] at d510 d511 d512 d513 d514 d515); replace hP5 := hid' hP5; replace hK5 := hid' (hK4.out.trans hK5))
    | (go_at_call 59; (with_reducible refine (put59 hP3.out _ (by first | decide | exact sz_1 (by assumption) | exact sz_l (by decide) (by assumption) | exact sz_r (by assumption) (by decide) | exact sz_3 (by decide) (by assumption) (by decide) | exact sz_t (by assumption) (by assumption) | omega)).mono ?_); rintro e w4 ⟨rfl, hP4, hK4⟩; have hb4 := hid' (hK4.box hb3.out); obtain ⟨y40, y41, y42, y43, y44, y45⟩ := box_cells hb4.out; replace hP4 := hid' hP4; replace hK4 := hid' (hK3.out.trans hK4))
    | (go_at_call 62; (with_reducible refine (hA0 _ _ hP2.out).mono ?_); rintro e w3 ⟨rfl, hP3, hK3⟩; have hb3 := hid' (hK3.box hb2.out); obtain ⟨y30, y31, y32, y33, y34, y35⟩ := box_cells hb3.out; replace hP3 := hid' hP3; replace hK3 := hid' (hK2.out.trans hK3))
    | (go_at_call 59; (with_reducible refine (put59 hP1.out _ (by first | decide | exact sz_1 (by assumption) | exact sz_l (by decide) (by assumption) | exact sz_r (by assumption) (by decide) | exact sz_3 (by decide) (by assumption) (by decide) | exact sz_t (by assumption) (by assumption) | omega)).mono ?_); rintro e w2 ⟨rfl, hP2, hK2⟩; have hb2 := hid' (hK2.box hb1.out); obtain ⟨y20, y21, y22, y23, y24, y25⟩ := box_cells hb2.out; have hl2 : b0 < w2.heap.size := Nat.lt_of_lt_of_le hlt hP2.bel.size; obtain ⟨d200, d201, d202, d203, d204, d205⟩ := HC0.out w2 hP2.bel; (try simp only [Nat.zero_mul, Nat.add_zero, Nat.one_mul, Nat.reduceMul, Nat.add_assoc, Nat.reduceAdd] at d200 d201 d202 d203 d204 d205); replace hP2 := hid' hP2; replace hK2 := hid' (hK1.out.trans hK2))
    | (go_at_call 59; (with_reducible refine (put59 hP0.out _ (by first | decide | exact sz_1 (by assumption) | exact sz_l (by decide) (by assumption) | exact sz_r (by assumption) (by decide) | exact sz_3 (by decide) (by assumption) (by decide) | exact sz_t (by assumption) (by assumption) | omega)).mono ?_); rintro e w1 ⟨rfl, hP1, hK1⟩; have hb1 := hid' (hK1.box hb0.out); obtain ⟨y10, y11, y12, y13, y14, y15⟩ := box_cells hb1.out; replace hP1 := hid' hP1; replace hK1 := hid' (hK0.out.trans hK1)))
  all_goals (refine bodyPost_ret (v := .tuple #[]) (by simp [results, Tryz.results60, go_sem]) rfl ⟨rfl, hP6.out.cast ?_, hK6.out⟩; simp [lst_app, lst_lit, List.append_assoc])

set_option maxHeartbeats 8000000 in
set_option maxRecDepth 20000 in
theorem de60_f2el {w0 : World} {tb : Nat} {str : ByteArray} {num pos : Int} {b0 o0 kn kc : Nat} (hlt : b0 < w0.heap.size) (hs : str.size ≤ 1048576) {t0 : Tr} {x0 : NdH} {kv0 : Value} (hc0 : NdAt w0 b0 (o0 + 0 * 6) x0 kv0) {t1 : Tr} {x1 : NdH} {kv1 : Value} (hc1 : NdAt w0 b0 (o0 + 1 * 6) x1 kv1){A0 : List UInt8} (hk056 : ¬ x0.kind = 56) (hA0 : ExAt w0 tb x0 kv0 0 A0) {a1 : Option Addr} {c1 : Nat} {ks : List Tr} (hl : ks.length ≤ 9223372036854775807) (hk : ∀ i (hi : i < ks.length), KidX w0 tb a1 ks[i] i) (hv : kv1 = .slice a1 ks.length c1) (hk144 : x1.kind = 44) (hcap : 2 ≤ kc) :
    Ex 60 w0 tb ⟨43, str, num, true, pos⟩ (.slice (some ⟨b0, o0, none⟩) 2 kc) (lst str ++ ([91] ++ (A0 ++ ([93] ++ ([32, 61, 32] ++ ([123] ++ (joinL [44, 32] (ks.map (spellT qtL)) ++ [125]))))))) := fun F W hP => by
  have hP0 := hid' (hP.box (.cells #[.int .i64 43, .string str, .int .u32 num, .bool true, .slice (some ⟨b0, o0, none⟩) 2 kc, .int .i64 pos] 25))
  have hb0 := hid' (heap_alloc_new W (.cells #[.int .i64 43, .string str, .int .u32 num, .bool true, .slice (some ⟨b0, o0, none⟩) 2 kc, .int .i64 pos] 25))
  have hK0 : Hid (KT w0.heap.size W (W.alloc (.cells #[.int .i64 43, .string str, .int .u32 num, .bool true, .slice (some ⟨b0, o0, none⟩) 2 kc, .int .i64 pos] 25))) := KT.of_below (below1 _ _)
  have hlW : b0 < W.heap.size := Nat.lt_of_lt_of_le hlt hP.bel.size
  have HC0 : Hid (∀ W', Below w0.heap.size w0 W' → NdAt W' b0 (o0 + 0 * 6) x0 kv0) := fun W' hb => nd_below hc0 hb hlt
  have HC1 : Hid (∀ W', Below w0.heap.size w0 W' → NdAt W' b0 (o0 + 1 * 6) x1 kv1) := fun W' hb => nd_below hc1 hb hlt
  obtain ⟨c00, c01, c02, c03, c04, c05⟩ := HC0.out W hP.bel
  obtain ⟨c10, c11, c12, c13, c14, c15⟩ := HC1.out W hP.bel
  clear hc0
  clear hc1
  clear hP
  subst hv
  try unfold Ex at *
  try unfold ExAt at *
  unfold ndV at *
  try simp only [Nat.zero_mul, Nat.add_zero, Nat.one_mul, Nat.reduceMul, Nat.add_assoc, Nat.reduceAdd] at c00 c01 c02 c03 c04 c05
  try simp only [Nat.zero_mul, Nat.add_zero, Nat.one_mul, Nat.reduceMul, Nat.add_assoc, Nat.reduceAdd] at c10 c11 c12 c13 c14 c15
  go_enter Tryz.func60, Tryz.ntmps60
  go_wp2_with (first
    | (go_at_call 59; (with_reducible refine (put59 hP7.out _ (by first | decide | exact sz_1 (by assumption) | exact sz_l (by decide) (by assumption) | exact sz_r (by assumption) (by decide) | exact sz_3 (by decide) (by assumption) (by decide) | exact sz_t (by assumption) (by assumption) | omega)).mono ?_); rintro e w8 ⟨rfl, hP8, hK8⟩; have hb8 := hid' (hK8.box hb7.out); obtain ⟨y80, y81, y82, y83, y84, y85⟩ := box_cells hb8.out; replace hP8 := hid' hP8; replace hK8 := hid' (hK7.out.trans hK8))
    | (go_at_call 92; (with_reducible refine (list92 hl hP6.out hk).mono ?_); rintro e w7 ⟨rfl, hP7, hK7⟩; have hb7 := hid' (hK7.box hb6.out); obtain ⟨y70, y71, y72, y73, y74, y75⟩ := box_cells hb7.out; replace hP7 := hid' hP7; replace hK7 := hid' (hK6.out.trans hK7))
    | (go_at_call 59; (with_reducible refine (put59 hP5.out _ (by first | decide | exact sz_1 (by assumption) | exact sz_l (by decide) (by assumption) | exact sz_r (by assumption) (by decide) | exact sz_3 (by decide) (by assumption) (by decide) | exact sz_t (by assumption) (by assumption) | omega)).mono ?_); rintro e w6 ⟨rfl, hP6, hK6⟩; have hb6 := hid' (hK6.box hb5.out); obtain ⟨y60, y61, y62, y63, y64, y65⟩ := box_cells hb6.out; have hl6 : b0 < w6.heap.size := Nat.lt_of_lt_of_le hlt hP6.bel.size; obtain ⟨d610, d611, d612, d613, d614, d615⟩ := HC1.out w6 hP6.bel; (try simp only [Nat.zero_mul, Nat.add_zero, Nat.one_mul, Nat.reduceMul, Nat.add_assoc, Nat.reduceAdd] at d610 d611 d612 d613 d614 d615); replace hP6 := hid' hP6; replace hK6 := hid' (hK5.out.trans hK6))
    | (go_at_call 59; (with_reducible refine (put59 hP4.out _ (by first | decide | exact sz_1 (by assumption) | exact sz_l (by decide) (by assumption) | exact sz_r (by assumption) (by decide) | exact sz_3 (by decide) (by assumption) (by decide) | exact sz_t (by assumption) (by assumption) | omega)).mono ?_); rintro e w5 ⟨rfl, hP5, hK5⟩; have hb5 := hid' (hK5.box hb4.out); obtain ⟨y50, y51, y52, y53, y54, y55⟩ := box_cells hb5.out; have hl5 : b0 < w5.heap.size := Nat.lt_of_lt_of_le hlt hP5.bel.size; obtain ⟨d510, d511, d512, d513, d514, d515⟩ := HC1.out w5 hP5.bel; (try simp only [Nat.zero_mul, Nat.add_zero, Nat.one_mul, Nat.reduceMul, Nat.add_assoc, Nat.reduceAdd] at d510 d511 d512 d513 d514 d515); replace hP5 := hid' hP5; replace hK5 := hid' (hK4.out.trans hK5))
    | (go_at_call 59; (with_reducible refine (put59 hP3.out _ (by first | decide | exact sz_1 (by assumption) | exact sz_l (by decide) (by assumption) | exact sz_r (by assumption) (by decide) | exact sz_3 (by decide) (by assumption) (by decide) | exact sz_t (by assumption) (by assumption) | omega)).mono ?_); rintro e w4 ⟨rfl, hP4, hK4⟩; have hb4 := hid' (hK4.box hb3.out); obtain ⟨y40, y41, y42, y43, y44, y45⟩ := box_cells hb4.out; replace hP4 := hid' hP4; replace hK4 := hid' (hK3.out.trans hK4))
    | (go_at_call 62; (with_reducible refine (hA0 _ _ hP2.out).mono ?_); rintro e w3 ⟨rfl, hP3, hK3⟩; have hb3 := hid' (hK3.box hb2.out); obtain ⟨y30, y31, y32, y33, y34, y35⟩ := box_cells hb3.out; replace hP3 := hid' hP3; replace hK3 := hid' (hK2.out.trans hK3))
    | (go_at_call 59; (with_reducible refine (put59 hP1.out _ (by first | decide | exact sz_1 (by assumption) | exact sz_l (by decide) (by assumption) | exact sz_r (by assumption) (by decide) | exact sz_3 (by decide) (by assumption) (by decide) | exact sz_t (by assumption) (by assumption) | omega)).mono ?_); rintro e w2 ⟨rfl, hP2, hK2⟩; have hb2 := hid' (hK2.box hb1.out); obtain ⟨y20, y21, y22, y23, y24, y25⟩ := box_cells hb2.out; have hl2 : b0 < w2.heap.size := Nat.lt_of_lt_of_le hlt hP2.bel.size; obtain ⟨d200, d201, d202, d203, d204, d205⟩ := HC0.out w2 hP2.bel; (try simp only [Nat.zero_mul, Nat.add_zero, Nat.one_mul, Nat.reduceMul, Nat.add_assoc, Nat.reduceAdd] at d200 d201 d202 d203 d204 d205); replace hP2 := hid' hP2; replace hK2 := hid' (hK1.out.trans hK2))
    | (go_at_call 59; (with_reducible refine (put59 hP0.out _ (by first | decide | exact sz_1 (by assumption) | exact sz_l (by decide) (by assumption) | exact sz_r (by assumption) (by decide) | exact sz_3 (by decide) (by assumption) (by decide) | exact sz_t (by assumption) (by assumption) | omega)).mono ?_); rintro e w1 ⟨rfl, hP1, hK1⟩; have hb1 := hid' (hK1.box hb0.out); obtain ⟨y10, y11, y12, y13, y14, y15⟩ := box_cells hb1.out; replace hP1 := hid' hP1; replace hK1 := hid' (hK0.out.trans hK1)))
  go_end0
  refine ⟨rfl, hP8.out.cast ?_, hK8.out⟩
  simp [lst_app, lst_lit, List.append_assoc]

end Go.Proofs.YtnnnfabpceapcaaGreatDoor

namespace Go.Proofs.YtnnnfabpceapcaaGreatDoor
set_option linter.unusedSimpArgs false
open Go.RowKit
set_option linter.unusedVariables false
set_option linter.unusedSimpArgs false

theorem td1 (ks : List Tr) : (ks.take 1).drop 1 = [] := by cases ks <;> rfl
theorem td_next (ks : List Tr) (j : Nat) (h1 : 1 ≤ j) (h : j < ks.length) : (ks.take (j + 1)).drop 1 = (ks.take j).drop 1 ++ [ks[j]] := by
  rw [take_next ks j h, List.drop_append_of_le_length (by rw [List.length_take]; omega)]

/-- A kid that one of the document's printers prints. -/
def KidG (g : Nat) (w0 : World) (tb b0 o0 : Nat) (t : Tr) (i : Nat) : Prop := ∃ x kv, NdAt w0 b0 (o0 + i * 6) x kv ∧ Ex g w0 tb x kv (spellT qtL t)

set_option maxHeartbeats 8000000 in
set_option maxRecDepth 20000 in
theorem li37_42 {w0 : World} {tb : Nat} {str : ByteArray} {num pos : Int} {flag : Bool} {b0 o0 kc : Nat} {ks : List Tr} (hlt : b0 < w0.heap.size) (hl : ks.length ≤ 9223372036854775807) (hl1 : 1 ≤ ks.length) {x0 : NdH} {kv0 : Value} (hc0 : NdAt w0 b0 (o0 + 0 * 6) x0 kv0) (hs0 : x0.str.size ≤ 1048576) (hk : ∀ i (hi : i < ks.length), 1 ≤ i → KidG 60 w0 tb b0 o0 ks[i] i) :
    Ex 37 w0 tb ⟨42, str, num, flag, pos⟩ (.slice (some ⟨b0, o0, none⟩) ks.length kc) (lst x0.str ++ ([32] ++ (joinL [44, 32] ((ks.drop 1).map (spellT qtL)) ++ [59, 10]))) := fun F W hP => by
  have hP0 := hid' (hP.box (.cells #[.int .i64 42, .string str, .int .u32 num, .bool flag, .slice (some ⟨b0, o0, none⟩) ks.length kc, .int .i64 pos] 25))
  have hb0 := hid' (heap_alloc_new W (.cells #[.int .i64 42, .string str, .int .u32 num, .bool flag, .slice (some ⟨b0, o0, none⟩) ks.length kc, .int .i64 pos] 25))
  have hK0 : Hid (KT w0.heap.size W (W.alloc (.cells #[.int .i64 42, .string str, .int .u32 num, .bool flag, .slice (some ⟨b0, o0, none⟩) ks.length kc, .int .i64 pos] 25))) := KT.of_below (below1 _ _)
  have hlW : b0 < W.heap.size := Nat.lt_of_lt_of_le hlt hP.bel.size
  obtain ⟨c00, c01, c02, c03, c04, c05⟩ := nd_below hc0 hP.bel hlt
  have HK := hid' hk
  have h1 : (0 : Int) < ks.length := by omega
  clear hP hc0 hk
  unfold ndV
  simp only [Nat.zero_mul, Nat.add_zero] at c00 c01 c02 c03 c04 c05
  go_enter Tryz.func37, Tryz.ntmps37
  go_wp2_with (go_at_call 59; (with_reducible refine (put59 hP0.out _ (sz_r hs0 (by decide))).mono ?_); rintro e w1 ⟨rfl, hP1, hK1⟩; have hb1 := hid' (hK1.box hb0.out); replace hP1 := hid' hP1; replace hK1 := hid' (hK0.out.trans hK1))
  go_loopw [4] (fun i wr => ∃ j : Nat, 1 ≤ j ∧ j ≤ ks.length ∧ i = .int .i64 (j : Nat) ∧ Pt w0 tb (F ++ (lst x0.str ++ ([32] ++ joinL [44, 32] (((ks.take j).drop 1).map (spellT qtL))))) wr ∧ KT w0.heap.size W wr ∧ wr.heap[W.heap.size]? = some (.cells #[.int .i64 42, .string str, .int .u32 num, .bool flag, .slice (some ⟨b0, o0, none⟩) ks.length kc, .int .i64 pos] 25 (0, 0))) (fun i _ => ks.length - (intOf i).toNat)
  case atStart => exact ⟨1, by omega, by omega, rfl, hP1.out.cast (by rw [td1, lst_app, show lst (⟨#[32]⟩ : ByteArray) = [32] from rfl]; simp [joinL]), hK1.out, hb1.out⟩
  case round =>
    obtain ⟨j, hj1, hj, rfl, hPt, hKt, hbx⟩ := hrel
    have HPt := hid' hPt
    have HKt := hid' hKt
    have HB := hid' hbx
    have hbel := hPt.bel
    obtain ⟨y0, y1, y2, y3, y4, y5⟩ := box_cells hbx
    clear hPt hKt hbx c00 c01 c02 c03 c04 c05
    by_cases hjt : j < ks.length
    · obtain ⟨x, kv, hc, hE⟩ := HK.out j hjt hj1
      have HE := hid' hE
      have HC : Hid (∀ W', Below w0.heap.size w0 W' → NdAt W' b0 (o0 + j * 6) x kv) := fun W' hb => nd_below hc hb hlt
      have hlw : b0 < wr.heap.size := Nat.lt_of_lt_of_le hlt hbel.size
      have hij : (j : Int) < ks.length := by omega
      have HN : Hid (joinL [44, 32] (((ks.take (j + 1)).drop 1).map (spellT qtL)) = joinL [44, 32] (((ks.take j).drop 1).map (spellT qtL) ++ [spellT qtL ks[j]])) := by
        unfold Hid
        rw [td_next ks j hj1 hjt, List.map_append]
        rfl
      clear hE hc
      unfold Ex at HE
      unfold ndV at HE
      by_cases h0 : j = 1
      · subst h0
        obtain ⟨c0, c1, c2, c3, c4, c5⟩ := HC.out wr hbel
        simp only [Nat.one_mul, Nat.add_assoc, Nat.reduceAdd] at c0 c1 c2 c3 c4 c5
        go_wp2_with (go_at_call 60; (with_reducible refine (HE.out _ _ HPt.out).mono ?_); rintro e w2 ⟨rfl, hP2, hK2⟩; have hb2 := hid' (hK2.box HB.out); replace hP2 := hid' hP2; replace hK2 := hid' hK2)
        go_roundw
        case rel => exact ⟨2, by omega, by omega, by go_num, hP2.out.cast (by rw [HN.out, td1]; simp [joinL]), HKt.out.trans hK2.out, hb2.out⟩
        case measure => simp [intOf]; omega
      · have hjp : (1 : Int) < j := by omega
        have HJ : Hid (joinL [44, 32] (((ks.take j).drop 1).map (spellT qtL) ++ [spellT qtL ks[j]]) = joinL [44, 32] (((ks.take j).drop 1).map (spellT qtL)) ++ ([44, 32] ++ spellT qtL ks[j])) := join_snoc _ _ _ (by
          intro e
          have := congrArg List.length e
          rw [List.length_map, List.length_drop, List.length_take, List.length_nil] at this
          omega)
        go_wp2_with (first
          | (go_at_call 60; (with_reducible refine (HE.out _ _ hP2.out).mono ?_); rintro e w3 ⟨rfl, hP3, hK3⟩; have hb3 := hid' (hK3.box hb2.out); replace hP3 := hid' hP3; replace hK3 := hid' hK3)
          | (go_at_call 59; (with_reducible refine (put59 HPt.out _ (by decide)).mono ?_); rintro e w2 ⟨rfl, hP2, hK2⟩; obtain ⟨c0, c1, c2, c3, c4, c5⟩ := HC.out w2 hP2.bel; have hl2 : b0 < w2.heap.size := Nat.lt_of_lt_of_le hlt hP2.bel.size; have hb2 := hid' (hK2.box HB.out); obtain ⟨z0, z1, z2, z3, z4, z5⟩ := box_cells hb2.out; replace hP2 := hid' hP2; replace hK2 := hid' hK2))
        go_roundw
        case rel => exact ⟨j + 1, by omega, by omega, by go_num, hP3.out.cast (by rw [HN.out, HJ.out]; simp [lst_lit]), HKt.out.trans (hK2.out.trans hK3.out), hb3.out⟩
        case measure => simp [intOf]; omega
    · have e : j = ks.length := by omega
      subst e
      go_wp2_with (go_at_call 59; (with_reducible refine (put59 HPt.out _ (by decide)).mono ?_); rintro e w2 ⟨rfl, hP2, hK2⟩; have hb2 := hid' (hK2.box HB.out); obtain ⟨z0, z1, z2, z3, z4, z5⟩ := box_cells hb2.out; replace hP2 := hid' hP2; replace hK2 := hid' hK2)
      go_end0
      exact ⟨rfl, hP2.out.cast (by rw [List.take_length]; simp [lst_lit]), HKt.out.trans hK2.out⟩

/-- The three parts of a for's head. -/
def preJ (S : Nat → List UInt8) : Nat → List UInt8
  | 0 => []
  | 1 => S 0
  | j + 2 => preJ S (j + 1) ++ ([59, 32] ++ S (j + 1))
theorem preJ_next (S : Nat → List UInt8) (j : Nat) (h : j ≠ 0) : preJ S (j + 1) = preJ S j ++ ([59, 32] ++ S j) := by
  rcases j with _ | j
  · exact absurd rfl h
  · rfl

set_option maxHeartbeats 8000000 in
set_option maxRecDepth 20000 in
theorem lo64 {w0 : World} {tb : Nat} {str : ByteArray} {num pos : Int} {flag : Bool} {b0 o0 kc : Nat} (hlt : b0 < w0.heap.size) (S : Nat → List UInt8) (hk : ∀ i, i < 3 → ∃ x kv, NdAt w0 b0 (o0 + i * 6) x kv ∧ ((x.kind = 56 ∧ S i = []) ∨ (¬ x.kind = 56 ∧ ExAt w0 tb x kv 0 (S i)))) {x3 : NdH} {kv3 : Value} {B : List UInt8} (hc3 : NdAt w0 b0 (o0 + 3 * 6) x3 kv3) (hL3 : Ex 37 w0 tb x3 kv3 B) :
    Ex 64 w0 tb ⟨52, str, num, flag, pos⟩ (.slice (some ⟨b0, o0, none⟩) 4 kc) ([102, 111, 114, 32, 40] ++ (preJ S 3 ++ ([41, 10] ++ B))) := fun F W hP => by
  have hP0 := hid' (hP.box (.cells #[.int .i64 52, .string str, .int .u32 num, .bool flag, .slice (some ⟨b0, o0, none⟩) 4 kc, .int .i64 pos] 25))
  have hb0 := hid' (heap_alloc_new W (.cells #[.int .i64 52, .string str, .int .u32 num, .bool flag, .slice (some ⟨b0, o0, none⟩) 4 kc, .int .i64 pos] 25))
  have hK0 : Hid (KT w0.heap.size W (W.alloc (.cells #[.int .i64 52, .string str, .int .u32 num, .bool flag, .slice (some ⟨b0, o0, none⟩) 4 kc, .int .i64 pos] 25))) := KT.of_below (below1 _ _)
  have HC3 : Hid (∀ W', Below w0.heap.size w0 W' → NdAt W' b0 (o0 + 3 * 6) x3 kv3) := fun W' hb => nd_below hc3 hb hlt
  have HK := hid' hk
  have HL := hid' hL3
  clear hP hc3 hk hL3
  unfold ndV
  unfold Ex at HL
  unfold ndV at HL
  go_enter Tryz.func64, Tryz.ntmps64
  go_wp2_with (go_at_call 59; (with_reducible refine (put59 hP0.out _ (by decide)).mono ?_); rintro e w1 ⟨rfl, hP1, hK1⟩; have hb1 := hid' (hK1.box hb0.out); replace hP1 := hid' hP1; replace hK1 := hid' (hK0.out.trans hK1))
  go_loopw [4] (fun i wr => ∃ j : Nat, j ≤ 3 ∧ i = .int .i64 (j : Nat) ∧ Pt w0 tb (F ++ ([102, 111, 114, 32, 40] ++ preJ S j)) wr ∧ KT w0.heap.size W wr ∧ wr.heap[W.heap.size]? = some (.cells #[.int .i64 52, .string str, .int .u32 num, .bool flag, .slice (some ⟨b0, o0, none⟩) 4 kc, .int .i64 pos] 25 (0, 0))) (fun i _ => 3 - (intOf i).toNat)
  case atStart => exact ⟨0, by omega, rfl, hP1.out.cast (by rw [show lst (⟨#[102, 111, 114, 32, 40]⟩ : ByteArray) = [102, 111, 114, 32, 40] from rfl]; simp [preJ]), hK1.out, hb1.out⟩
  case round =>
    obtain ⟨j, hj, rfl, hPt, hKt, hbx⟩ := hrel
    have HPt := hid' hPt
    have HKt := hid' hKt
    have HB := hid' hbx
    have hbel := hPt.bel
    obtain ⟨y0, y1, y2, y3, y4, y5⟩ := box_cells hbx
    clear hPt hKt hbx
    by_cases hjt : j < 3
    · obtain ⟨x, kv, hc, hE⟩ := HK.out j hjt
      have HC : Hid (∀ W', Below w0.heap.size w0 W' → NdAt W' b0 (o0 + j * 6) x kv) := fun W' hb => nd_below hc hb hlt
      have hlw : b0 < wr.heap.size := Nat.lt_of_lt_of_le hlt hbel.size
      have hij : (j : Int) < 3 := by omega
      have hij4 : (j : Int) < 4 := by omega
      clear hc
      by_cases h0 : j = 0
      · subst h0
        obtain ⟨c0, c1, c2, c3, c4, c5⟩ := HC.out wr hbel
        simp only [Nat.zero_mul, Nat.add_zero] at c0 c1 c2 c3 c4 c5
        rcases hE with ⟨hx, hS⟩ | ⟨hx, hE⟩
        · have HS := hid' hS
          clear hS
          go_wp2_with fail
          go_roundw
          case rel => exact ⟨1, by omega, by go_num, HPt.out.cast (by simp [preJ, HS.out]), HKt.out, HB.out⟩
          case measure => simp [intOf]
        · have HE := hid' hE
          clear hE
          unfold ExAt at HE
          unfold ndV at HE
          go_wp2_with (go_at_call 62; (with_reducible refine (HE.out _ _ HPt.out).mono ?_); rintro e w2 ⟨rfl, hP2, hK2⟩; have hb2 := hid' (hK2.box HB.out); replace hP2 := hid' hP2; replace hK2 := hid' hK2)
          go_roundw
          case rel => exact ⟨1, by omega, by go_num, hP2.out.cast (by simp [preJ]), HKt.out.trans hK2.out, hb2.out⟩
          case measure => simp [intOf]
      · have hjp : (0 : Int) < j := by omega
        have HN : Hid (preJ S (j + 1) = preJ S j ++ ([59, 32] ++ S j)) := preJ_next S j h0
        rcases hE with ⟨hx, hS⟩ | ⟨hx, hE⟩
        · have HS := hid' hS
          clear hS
          go_wp2_with (go_at_call 59; (with_reducible refine (put59 HPt.out _ (by decide)).mono ?_); rintro e w2 ⟨rfl, hP2, hK2⟩; obtain ⟨c0, c1, c2, c3, c4, c5⟩ := HC.out w2 hP2.bel; have hl2 : b0 < w2.heap.size := Nat.lt_of_lt_of_le hlt hP2.bel.size; have hb2 := hid' (hK2.box HB.out); obtain ⟨z0, z1, z2, z3, z4, z5⟩ := box_cells hb2.out; replace hP2 := hid' hP2; replace hK2 := hid' hK2)
          go_roundw
          case rel => exact ⟨j + 1, by omega, by go_num, hP2.out.cast (by rw [HN.out, HS.out]; simp [lst_lit]), HKt.out.trans hK2.out, hb2.out⟩
          case measure => simp [intOf]; omega
        · have HE := hid' hE
          clear hE
          unfold ExAt at HE
          unfold ndV at HE
          go_wp2_with (first
            | (go_at_call 62; (with_reducible refine (HE.out _ _ hP2.out).mono ?_); rintro e w3 ⟨rfl, hP3, hK3⟩; have hb3 := hid' (hK3.box hb2.out); replace hP3 := hid' hP3; replace hK3 := hid' hK3)
            | (go_at_call 59; (with_reducible refine (put59 HPt.out _ (by decide)).mono ?_); rintro e w2 ⟨rfl, hP2, hK2⟩; obtain ⟨c0, c1, c2, c3, c4, c5⟩ := HC.out w2 hP2.bel; have hl2 : b0 < w2.heap.size := Nat.lt_of_lt_of_le hlt hP2.bel.size; have hb2 := hid' (hK2.box HB.out); obtain ⟨z0, z1, z2, z3, z4, z5⟩ := box_cells hb2.out; replace hP2 := hid' hP2; replace hK2 := hid' hK2))
          go_roundw
          case rel => exact ⟨j + 1, by omega, by go_num, hP3.out.cast (by rw [HN.out]; simp [lst_lit]), HKt.out.trans (hK2.out.trans hK3.out), hb3.out⟩
          case measure => simp [intOf]; omega
    · have e : j = 3 := by omega
      subst e
      go_wp2_with (first
        | (go_at_call 37; (with_reducible refine (HL.out _ _ hP2.out).mono ?_); rintro e w3 ⟨rfl, hP3, hK3⟩; replace hP3 := hid' hP3; replace hK3 := hid' hK3)
        | (go_at_call 59; (with_reducible refine (put59 HPt.out _ (by decide)).mono ?_); rintro e w2 ⟨rfl, hP2, hK2⟩; obtain ⟨c0, c1, c2, c3, c4, c5⟩ := HC3.out w2 hP2.bel; have hl2 : b0 < w2.heap.size := Nat.lt_of_lt_of_le hlt hP2.bel.size; (simp only [Nat.reduceMul, Nat.add_assoc, Nat.reduceAdd] at c0 c1 c2 c3 c4 c5); have hb2 := hid' (hK2.box HB.out); obtain ⟨z0, z1, z2, z3, z4, z5⟩ := box_cells hb2.out; replace hP2 := hid' hP2; replace hK2 := hid' hK2))
      go_end0
      exact ⟨rfl, hP3.out.cast (by simp [lst_lit]), HKt.out.trans (hK2.out.trans hK3.out)⟩
end Go.Proofs.YtnnnfabpceapcaaGreatDoor

namespace Go.Proofs.YtnnnfabpceapcaaGreatDoor
set_option linter.unusedSimpArgs false
open Go.RowKit
set_option linter.unusedVariables false
set_option linter.unusedSimpArgs false

/-- A parameter. -/
def ParP (w0 : World) (b0 o0 : Nat) (t : Tr) (i : Nat) : Prop := ∃ (x : NdH) (b1 o1 c1 : Nat) (y : NdH) (kvy : Value), NdAt w0 b0 (o0 + i * 6) x (.slice (some ⟨b1, o1, none⟩) 1 c1) ∧ b1 < w0.heap.size ∧ NdAt w0 b1 o1 y kvy ∧ x.str.size ≤ 1048576 ∧ y.str.size ≤ 1048576 ∧ spellT qtL t = lst y.str ++ ([32] ++ ((if x.num = 1 then [42] else []) ++ (lst x.str ++ (if x.flag then [91, 93] else []))))

theorem sz_4 {a b : ByteArray} (ha : a.size ≤ 1048576) (hb : b.size ≤ 1048576) : (a ++ (⟨#[32]⟩ : ByteArray) ++ b ++ (⟨#[40]⟩ : ByteArray)).size ≤ 100000000 := by
  have h1 : (⟨#[32]⟩ : ByteArray).size = 1 := rfl
  have h2 : (⟨#[40]⟩ : ByteArray).size = 1 := rfl
  rw [ByteArray.size_append, ByteArray.size_append, ByteArray.size_append]
  omega

set_option maxHeartbeats 16000000 in
set_option maxRecDepth 20000 in
theorem fu61 {w0 : World} {tb : Nat} {str : ByteArray} {num pos : Int} {flag : Bool} {b0 o0 kc k : Nat} {ks : List Tr} (hlt : b0 < w0.heap.size) (hkl : ks.length = k + 1) (hk1 : 1 ≤ k) (hl : k + 1 ≤ 9223372036854775807) (hs : str.size ≤ 1048576) {x0 : NdH} {kv0 : Value} (hc0 : NdAt w0 b0 (o0 + 0 * 6) x0 kv0) (hs0 : x0.str.size ≤ 1048576) (hk : ∀ i (hi : i < ks.length), 1 ≤ i → i < k → ParP w0 b0 o0 ks[i] i) {xl : NdH} {kvl : Value} {B : List UInt8} (hcl : NdAt w0 b0 (o0 + k * 6) xl kvl) (hLl : Ex 37 w0 tb xl kvl B) :
    Ex 61 w0 tb ⟨45, str, num, flag, pos⟩ (.slice (some ⟨b0, o0, none⟩) (k + 1) kc) (lst x0.str ++ ([32] ++ (lst str ++ ([40] ++ (joinL [44, 32] (((ks.take k).drop 1).map (spellT qtL)) ++ ([41, 32] ++ B)))))) := fun F W hP => by
  obtain ⟨W0, hW0⟩ : ∃ W0, W0 = W.alloc (.cells #[.int .i64 45, .string str, .int .u32 num, .bool flag, .slice (some ⟨b0, o0, none⟩) (k + 1) kc, .int .i64 pos] 25) := ⟨_, rfl⟩
  have hP0 : Hid (Pt w0 tb F W0) := by rw [hW0]; exact hP.box _
  have hb0 : Hid (W0.heap[W.heap.size]? = some (.cells #[.int .i64 45, .string str, .int .u32 num, .bool flag, .slice (some ⟨b0, o0, none⟩) (k + 1) kc, .int .i64 pos] 25 (0, 0))) := by rw [hW0]; exact heap_alloc_new W _
  have hK0 : Hid (KT w0.heap.size W W0) := by rw [hW0]; exact KT.of_below (below1 _ _)
  have HW := hid' hW0
  have HC0 : Hid (∀ W', Below w0.heap.size w0 W' → NdAt W' b0 (o0 + 0 * 6) x0 kv0) := fun W' hb => nd_below hc0 hb hlt
  have HCL : Hid (∀ W', Below w0.heap.size w0 W' → NdAt W' b0 (o0 + k * 6) xl kvl) := fun W' hb => nd_below hcl hb hlt
  have HK := hid' hk
  have HL := hid' hLl
  have HKL := hid' hkl
  clear hP hW0 hc0 hcl hk hLl hkl
  have e1 : ((k + 1 : Nat) : Int) - 1 = k := by omega
  have g0 : (0 : Int) < ((k + 1 : Nat) : Int) := by omega
  have n1 : ¬ 9223372036854775807 < x0.str.size + 1 := by omega
  have n2 : ¬ 9223372036854775807 < x0.str.size + 1 + str.size := by omega
  have n3 : ¬ 9223372036854775807 < x0.str.size + 1 + str.size + 1 := by omega
  unfold ndV
  unfold Ex at HL
  unfold ndV at HL
  go_enter Tryz.func61, Tryz.ntmps61
  go_wp2_with fail
  rw [← HW.out]
  have q1 : ∀ t : After W0, t.1.cell? ⟨W.heap.size, 1, none⟩ = some (.string str) := fun t => (box_cells ((KT.of_below (B := w0.heap.size) t.2).box hb0.out)).2.1
  have q4 : ∀ t : After W0, t.1.cell? ⟨W.heap.size, 4, none⟩ = some (.slice (some ⟨b0, o0, none⟩) (k + 1) kc) := fun t => (box_cells ((KT.of_below (B := w0.heap.size) t.2).box hb0.out)).2.2.2.2.1
  have r1 : ∀ t : After W0, t.1.cell? ⟨b0, o0 + 1, none⟩ = some (.string x0.str) := fun t => by
    have := (HC0.out t.1 (below_on hP0.out.bel t.2)).2.1
    simpa using this
  have hne := after_some W0
  refine region_after 11 mixed (by kernel_rfl) ?_
  simp only [List.take_succ_cons, List.take_zero, List.drop_succ_cons, List.drop_zero]
  repeat quiet_step (fail)
  refine wpQuiet_nil ?_
  intro w1 hb1
  have hP1 := hid' (hP0.out.below hb1)
  have hK1 := hid' (hK0.out.trans (KT.of_below hb1))
  have hB1 := hid' ((KT.of_below (B := w0.heap.size) hb1).box hb0.out)
  clear q1 q4 r1 hne hb1 n1 n2 n3
  go_wp2_with (go_at_call 59; (with_reducible refine (put59 hP1.out _ (sz_4 hs0 hs)).mono ?_); rintro e w2 ⟨rfl, hP2, hK2⟩; have hB2 := hid' (hK2.box hB1.out); replace hP2 := hid' hP2; replace hK2 := hid' (hK1.out.trans hK2))
  go_loopw [5] (fun i wr => ∃ j : Nat, 1 ≤ j ∧ j ≤ k ∧ i = .int .i64 (j : Nat) ∧ Pt w0 tb (F ++ (lst x0.str ++ ([32] ++ (lst str ++ ([40] ++ joinL [44, 32] (((ks.take j).drop 1).map (spellT qtL))))))) wr ∧ KT w0.heap.size W wr ∧ wr.heap[W.heap.size]? = some (.cells #[.int .i64 45, .string str, .int .u32 num, .bool flag, .slice (some ⟨b0, o0, none⟩) (k + 1) kc, .int .i64 pos] 25 (0, 0))) (fun i _ => k - (intOf i).toNat)
  case atStart => exact ⟨1, by omega, by omega, rfl, hP2.out.cast (by rw [td1, lst_app, lst_app, lst_app, show lst (⟨#[32]⟩ : ByteArray) = [32] from rfl, show lst (⟨#[40]⟩ : ByteArray) = [40] from rfl]; simp [joinL]), hK2.out, hB2.out⟩
  case round =>
    obtain ⟨j, hj1, hj, rfl, hPt, hKt, hbx⟩ := hrel
    have HPt := hid' hPt
    have HKt := hid' hKt
    have HB := hid' hbx
    have hbel := hPt.bel
    obtain ⟨y0, y1, y2, y3, y4, y5⟩ := box_cells hbx
    clear hPt hKt hbx
    by_cases hjt : j < k
    · have hjl : j < ks.length := by rw [HKL.out]; omega
      obtain ⟨x, b1, o1, c1, y, kvy, hc, hlt1, hcy, hsx, hsy, hsp⟩ := HK.out j hjl hj1 hjt
      obtain ⟨kd, ps, pn, pf, pp⟩ := x
      dsimp only at hsx hsp
      have HSP := hid' hsp
      have HC : Hid (∀ W', Below w0.heap.size w0 W' → NdAt W' b0 (o0 + j * 6) ⟨kd, ps, pn, pf, pp⟩ (.slice (some ⟨b1, o1, none⟩) 1 c1)) := fun W' hb => nd_below hc hb hlt
      have HY : Hid (∀ W', Below w0.heap.size w0 W' → NdAt W' b1 o1 y kvy) := fun W' hb => nd_below hcy hb hlt1
      have hlw : b0 < wr.heap.size := Nat.lt_of_lt_of_le hlt hbel.size
      have hlw1 : b1 < wr.heap.size := Nat.lt_of_lt_of_le hlt1 hbel.size
      have hij : (j : Int) < k := by omega
      have hij4 : (j : Int) < ((k + 1 : Nat) : Int) := by omega
      have HN : Hid (joinL [44, 32] (((ks.take (j + 1)).drop 1).map (spellT qtL)) = joinL [44, 32] (((ks.take j).drop 1).map (spellT qtL) ++ [spellT qtL ks[j]])) := by
        unfold Hid
        rw [td_next ks j hj1 hjl, List.map_append]
        rfl
      clear hc hcy hsp
      by_cases h0 : j = 1
      · subst h0
        obtain ⟨c0, c1', c2, c3, c4, c5⟩ := HC.out wr hbel
        obtain ⟨a0, a1, a2, a3, a4, a5⟩ := HY.out wr hbel
        simp only [Nat.one_mul, Nat.add_assoc, Nat.reduceAdd] at c0 c1' c2 c3 c4 c5
        by_cases hn : pn = 1
        · subst hn
          cases pf with
          | true =>
            go_wp2_with (first
              | (go_at_call 59; (with_reducible refine (put59 hP3.out _ (by first | decide | exact sz_1 hsx | exact sz_r hsy (by decide))).mono ?_); rintro e v4 ⟨rfl, hP4, hK4⟩; have hQ4 := hid' (hK4.box hQ3.out); have hB4 := hid' (hK4.box hB3.out); obtain ⟨q0, q1, q2, q3, q4, q5⟩ := box_cells hQ4.out; replace hP4 := hid' hP4; replace hK4 := hid' (hK3.out.trans hK4))
              | (go_at_call 59; (with_reducible refine (put59 hP2.out _ (by first | decide | exact sz_1 hsx | exact sz_r hsy (by decide))).mono ?_); rintro e v3 ⟨rfl, hP3, hK3⟩; have hQ3 := hid' (hK3.box hQ2.out); have hB3 := hid' (hK3.box hB2.out); obtain ⟨q0, q1, q2, q3, q4, q5⟩ := box_cells hQ3.out; replace hP3 := hid' hP3; replace hK3 := hid' (hK2.out.trans hK3))
              | (go_at_call 59; (with_reducible refine (put59 hP1.out _ (by first | decide | exact sz_1 hsx | exact sz_r hsy (by decide))).mono ?_); rintro e v2 ⟨rfl, hP2, hK2⟩; have hQ2 := hid' (hK2.box hQ1.out); have hB2 := hid' (hK2.box hB1.out); obtain ⟨q0, q1, q2, q3, q4, q5⟩ := box_cells hQ2.out; replace hP2 := hid' hP2; replace hK2 := hid' (hK1.out.trans hK2))
              | (go_at_call 59; (with_reducible refine (put59 (HPt.out.box _) _ (by first | decide | exact sz_1 hsx | exact sz_r hsy (by decide))).mono ?_); rintro e v1 ⟨rfl, hP1, hK1⟩; have hQ1 := hid' (hK1.box (heap_alloc_new wr (.cells #[.int .i64 kd, .string ps, .int .u32 1, .bool true, .slice (some ⟨b1, o1, none⟩) 1 c1, .int .i64 pp] 25))); have hB1 := hid' (hK1.box ((KT.of_below (B := w0.heap.size) (below1 _ _)).box HB.out)); obtain ⟨q0, q1, q2, q3, q4, q5⟩ := box_cells hQ1.out; replace hP1 := hid' hP1; replace hK1 := hid' ((HKt.out.trans (KT.of_below (below1 _ _))).trans hK1)))
            go_roundw
            case rel => exact ⟨2, by omega, by omega, by go_num, hP4.out.cast (by rw [HN.out, td1, HSP.out]; simp [joinL, lst_app, lst_lit]), hK4.out, hB4.out⟩
            case measure => simp [intOf]; omega
          | false =>
            go_wp2_with (first
              | (go_at_call 59; (with_reducible refine (put59 hP2.out _ (by first | decide | exact sz_1 hsx | exact sz_r hsy (by decide))).mono ?_); rintro e v3 ⟨rfl, hP3, hK3⟩; have hQ3 := hid' (hK3.box hQ2.out); have hB3 := hid' (hK3.box hB2.out); obtain ⟨q0, q1, q2, q3, q4, q5⟩ := box_cells hQ3.out; replace hP3 := hid' hP3; replace hK3 := hid' (hK2.out.trans hK3))
              | (go_at_call 59; (with_reducible refine (put59 hP1.out _ (by first | decide | exact sz_1 hsx | exact sz_r hsy (by decide))).mono ?_); rintro e v2 ⟨rfl, hP2, hK2⟩; have hQ2 := hid' (hK2.box hQ1.out); have hB2 := hid' (hK2.box hB1.out); obtain ⟨q0, q1, q2, q3, q4, q5⟩ := box_cells hQ2.out; replace hP2 := hid' hP2; replace hK2 := hid' (hK1.out.trans hK2))
              | (go_at_call 59; (with_reducible refine (put59 (HPt.out.box _) _ (by first | decide | exact sz_1 hsx | exact sz_r hsy (by decide))).mono ?_); rintro e v1 ⟨rfl, hP1, hK1⟩; have hQ1 := hid' (hK1.box (heap_alloc_new wr (.cells #[.int .i64 kd, .string ps, .int .u32 1, .bool false, .slice (some ⟨b1, o1, none⟩) 1 c1, .int .i64 pp] 25))); have hB1 := hid' (hK1.box ((KT.of_below (B := w0.heap.size) (below1 _ _)).box HB.out)); obtain ⟨q0, q1, q2, q3, q4, q5⟩ := box_cells hQ1.out; replace hP1 := hid' hP1; replace hK1 := hid' ((HKt.out.trans (KT.of_below (below1 _ _))).trans hK1)))
            go_roundw
            case rel => exact ⟨2, by omega, by omega, by go_num, hP3.out.cast (by rw [HN.out, td1, HSP.out]; simp [joinL, lst_app, lst_lit]), hK3.out, hB3.out⟩
            case measure => simp [intOf]; omega
        · cases pf with
          | true =>
            go_wp2_with (first
              | (go_at_call 59; (with_reducible refine (put59 hP2.out _ (by first | decide | exact sz_1 hsx | exact sz_r hsy (by decide))).mono ?_); rintro e v3 ⟨rfl, hP3, hK3⟩; have hQ3 := hid' (hK3.box hQ2.out); have hB3 := hid' (hK3.box hB2.out); obtain ⟨q0, q1, q2, q3, q4, q5⟩ := box_cells hQ3.out; replace hP3 := hid' hP3; replace hK3 := hid' (hK2.out.trans hK3))
              | (go_at_call 59; (with_reducible refine (put59 hP1.out _ (by first | decide | exact sz_1 hsx | exact sz_r hsy (by decide))).mono ?_); rintro e v2 ⟨rfl, hP2, hK2⟩; have hQ2 := hid' (hK2.box hQ1.out); have hB2 := hid' (hK2.box hB1.out); obtain ⟨q0, q1, q2, q3, q4, q5⟩ := box_cells hQ2.out; replace hP2 := hid' hP2; replace hK2 := hid' (hK1.out.trans hK2))
              | (go_at_call 59; (with_reducible refine (put59 (HPt.out.box _) _ (by first | decide | exact sz_1 hsx | exact sz_r hsy (by decide))).mono ?_); rintro e v1 ⟨rfl, hP1, hK1⟩; have hQ1 := hid' (hK1.box (heap_alloc_new wr (.cells #[.int .i64 kd, .string ps, .int .u32 pn, .bool true, .slice (some ⟨b1, o1, none⟩) 1 c1, .int .i64 pp] 25))); have hB1 := hid' (hK1.box ((KT.of_below (B := w0.heap.size) (below1 _ _)).box HB.out)); obtain ⟨q0, q1, q2, q3, q4, q5⟩ := box_cells hQ1.out; replace hP1 := hid' hP1; replace hK1 := hid' ((HKt.out.trans (KT.of_below (below1 _ _))).trans hK1)))
            go_roundw
            case rel => exact ⟨2, by omega, by omega, by go_num, hP3.out.cast (by rw [HN.out, td1, HSP.out]; simp [joinL, lst_app, lst_lit, hn]), hK3.out, hB3.out⟩
            case measure => simp [intOf]; omega
          | false =>
            go_wp2_with (first
              | (go_at_call 59; (with_reducible refine (put59 hP1.out _ (by first | decide | exact sz_1 hsx | exact sz_r hsy (by decide))).mono ?_); rintro e v2 ⟨rfl, hP2, hK2⟩; have hQ2 := hid' (hK2.box hQ1.out); have hB2 := hid' (hK2.box hB1.out); obtain ⟨q0, q1, q2, q3, q4, q5⟩ := box_cells hQ2.out; replace hP2 := hid' hP2; replace hK2 := hid' (hK1.out.trans hK2))
              | (go_at_call 59; (with_reducible refine (put59 (HPt.out.box _) _ (by first | decide | exact sz_1 hsx | exact sz_r hsy (by decide))).mono ?_); rintro e v1 ⟨rfl, hP1, hK1⟩; have hQ1 := hid' (hK1.box (heap_alloc_new wr (.cells #[.int .i64 kd, .string ps, .int .u32 pn, .bool false, .slice (some ⟨b1, o1, none⟩) 1 c1, .int .i64 pp] 25))); have hB1 := hid' (hK1.box ((KT.of_below (B := w0.heap.size) (below1 _ _)).box HB.out)); obtain ⟨q0, q1, q2, q3, q4, q5⟩ := box_cells hQ1.out; replace hP1 := hid' hP1; replace hK1 := hid' ((HKt.out.trans (KT.of_below (below1 _ _))).trans hK1)))
            go_roundw
            case rel => exact ⟨2, by omega, by omega, by go_num, hP2.out.cast (by rw [HN.out, td1, HSP.out]; simp [joinL, lst_app, lst_lit, hn]), hK2.out, hB2.out⟩
            case measure => simp [intOf]; omega
      · have hjp : (1 : Int) < j := by omega
        have HJ : Hid (joinL [44, 32] (((ks.take j).drop 1).map (spellT qtL) ++ [spellT qtL ks[j]]) = joinL [44, 32] (((ks.take j).drop 1).map (spellT qtL)) ++ ([44, 32] ++ spellT qtL ks[j])) := join_snoc _ _ _ (by
          intro e
          have := congrArg List.length e
          rw [List.length_map, List.length_drop, List.length_take, List.length_nil, HKL.out] at this
          omega)
        by_cases hn : pn = 1
        · subst hn
          cases pf with
          | true =>
            go_wp2_with (first
              | (go_at_call 59; (with_reducible refine (put59 hP4.out _ (by first | decide | exact sz_1 hsx | exact sz_r hsy (by decide))).mono ?_); rintro e v5 ⟨rfl, hP5, hK5⟩; have hQ5 := hid' (hK5.box hQ4.out); have hB5 := hid' (hK5.box hB4.out); obtain ⟨q0, q1, q2, q3, q4, q5⟩ := box_cells hQ5.out; replace hP5 := hid' hP5; replace hK5 := hid' (hK4.out.trans hK5))
              | (go_at_call 59; (with_reducible refine (put59 hP3.out _ (by first | decide | exact sz_1 hsx | exact sz_r hsy (by decide))).mono ?_); rintro e v4 ⟨rfl, hP4, hK4⟩; have hQ4 := hid' (hK4.box hQ3.out); have hB4 := hid' (hK4.box hB3.out); obtain ⟨q0, q1, q2, q3, q4, q5⟩ := box_cells hQ4.out; replace hP4 := hid' hP4; replace hK4 := hid' (hK3.out.trans hK4))
              | (go_at_call 59; (with_reducible refine (put59 hP2.out _ (by first | decide | exact sz_1 hsx | exact sz_r hsy (by decide))).mono ?_); rintro e v3 ⟨rfl, hP3, hK3⟩; have hQ3 := hid' (hK3.box hQ2.out); have hB3 := hid' (hK3.box hB2.out); obtain ⟨q0, q1, q2, q3, q4, q5⟩ := box_cells hQ3.out; replace hP3 := hid' hP3; replace hK3 := hid' (hK2.out.trans hK3))
              | (go_at_call 59; (with_reducible refine (put59 (hP1.out.box _) _ (by first | decide | exact sz_1 hsx | exact sz_r hsy (by decide))).mono ?_); rintro e v2 ⟨rfl, hP2, hK2⟩; have hQ2 := hid' (hK2.box (heap_alloc_new v1 (.cells #[.int .i64 kd, .string ps, .int .u32 1, .bool true, .slice (some ⟨b1, o1, none⟩) 1 c1, .int .i64 pp] 25))); have hB2 := hid' (hK2.box ((KT.of_below (B := w0.heap.size) (below1 _ _)).box hB1.out)); obtain ⟨q0, q1, q2, q3, q4, q5⟩ := box_cells hQ2.out; replace hP2 := hid' hP2; replace hK2 := hid' ((hK1.out.trans (KT.of_below (below1 _ _))).trans hK2))
              | (go_at_call 59; (with_reducible refine (put59 HPt.out _ (by decide)).mono ?_); rintro e v1 ⟨rfl, hP1, hK1⟩; obtain ⟨c0, c1', c2, c3, c4, c5⟩ := HC.out v1 hP1.bel; obtain ⟨a0, a1, a2, a3, a4, a5⟩ := HY.out v1 hP1.bel; have hl1 : b0 < v1.heap.size := Nat.lt_of_lt_of_le hlt hP1.bel.size; have hm1 : b1 < v1.heap.size := Nat.lt_of_lt_of_le hlt1 hP1.bel.size; have hB1 := hid' (hK1.box HB.out); obtain ⟨z0, z1, z2, z3, z4, z5⟩ := box_cells hB1.out; replace hP1 := hid' hP1; replace hK1 := hid' (HKt.out.trans hK1)))
            go_roundw
            case rel => exact ⟨j + 1, by omega, by omega, by go_num, hP5.out.cast (by rw [HN.out, HJ.out, HSP.out]; simp [joinL, lst_app, lst_lit]), hK5.out, hB5.out⟩
            case measure => simp [intOf]; omega
          | false =>
            go_wp2_with (first
              | (go_at_call 59; (with_reducible refine (put59 hP3.out _ (by first | decide | exact sz_1 hsx | exact sz_r hsy (by decide))).mono ?_); rintro e v4 ⟨rfl, hP4, hK4⟩; have hQ4 := hid' (hK4.box hQ3.out); have hB4 := hid' (hK4.box hB3.out); obtain ⟨q0, q1, q2, q3, q4, q5⟩ := box_cells hQ4.out; replace hP4 := hid' hP4; replace hK4 := hid' (hK3.out.trans hK4))
              | (go_at_call 59; (with_reducible refine (put59 hP2.out _ (by first | decide | exact sz_1 hsx | exact sz_r hsy (by decide))).mono ?_); rintro e v3 ⟨rfl, hP3, hK3⟩; have hQ3 := hid' (hK3.box hQ2.out); have hB3 := hid' (hK3.box hB2.out); obtain ⟨q0, q1, q2, q3, q4, q5⟩ := box_cells hQ3.out; replace hP3 := hid' hP3; replace hK3 := hid' (hK2.out.trans hK3))
              | (go_at_call 59; (with_reducible refine (put59 (hP1.out.box _) _ (by first | decide | exact sz_1 hsx | exact sz_r hsy (by decide))).mono ?_); rintro e v2 ⟨rfl, hP2, hK2⟩; have hQ2 := hid' (hK2.box (heap_alloc_new v1 (.cells #[.int .i64 kd, .string ps, .int .u32 1, .bool false, .slice (some ⟨b1, o1, none⟩) 1 c1, .int .i64 pp] 25))); have hB2 := hid' (hK2.box ((KT.of_below (B := w0.heap.size) (below1 _ _)).box hB1.out)); obtain ⟨q0, q1, q2, q3, q4, q5⟩ := box_cells hQ2.out; replace hP2 := hid' hP2; replace hK2 := hid' ((hK1.out.trans (KT.of_below (below1 _ _))).trans hK2))
              | (go_at_call 59; (with_reducible refine (put59 HPt.out _ (by decide)).mono ?_); rintro e v1 ⟨rfl, hP1, hK1⟩; obtain ⟨c0, c1', c2, c3, c4, c5⟩ := HC.out v1 hP1.bel; obtain ⟨a0, a1, a2, a3, a4, a5⟩ := HY.out v1 hP1.bel; have hl1 : b0 < v1.heap.size := Nat.lt_of_lt_of_le hlt hP1.bel.size; have hm1 : b1 < v1.heap.size := Nat.lt_of_lt_of_le hlt1 hP1.bel.size; have hB1 := hid' (hK1.box HB.out); obtain ⟨z0, z1, z2, z3, z4, z5⟩ := box_cells hB1.out; replace hP1 := hid' hP1; replace hK1 := hid' (HKt.out.trans hK1)))
            go_roundw
            case rel => exact ⟨j + 1, by omega, by omega, by go_num, hP4.out.cast (by rw [HN.out, HJ.out, HSP.out]; simp [joinL, lst_app, lst_lit]), hK4.out, hB4.out⟩
            case measure => simp [intOf]; omega
        · cases pf with
          | true =>
            go_wp2_with (first
              | (go_at_call 59; (with_reducible refine (put59 hP3.out _ (by first | decide | exact sz_1 hsx | exact sz_r hsy (by decide))).mono ?_); rintro e v4 ⟨rfl, hP4, hK4⟩; have hQ4 := hid' (hK4.box hQ3.out); have hB4 := hid' (hK4.box hB3.out); obtain ⟨q0, q1, q2, q3, q4, q5⟩ := box_cells hQ4.out; replace hP4 := hid' hP4; replace hK4 := hid' (hK3.out.trans hK4))
              | (go_at_call 59; (with_reducible refine (put59 hP2.out _ (by first | decide | exact sz_1 hsx | exact sz_r hsy (by decide))).mono ?_); rintro e v3 ⟨rfl, hP3, hK3⟩; have hQ3 := hid' (hK3.box hQ2.out); have hB3 := hid' (hK3.box hB2.out); obtain ⟨q0, q1, q2, q3, q4, q5⟩ := box_cells hQ3.out; replace hP3 := hid' hP3; replace hK3 := hid' (hK2.out.trans hK3))
              | (go_at_call 59; (with_reducible refine (put59 (hP1.out.box _) _ (by first | decide | exact sz_1 hsx | exact sz_r hsy (by decide))).mono ?_); rintro e v2 ⟨rfl, hP2, hK2⟩; have hQ2 := hid' (hK2.box (heap_alloc_new v1 (.cells #[.int .i64 kd, .string ps, .int .u32 pn, .bool true, .slice (some ⟨b1, o1, none⟩) 1 c1, .int .i64 pp] 25))); have hB2 := hid' (hK2.box ((KT.of_below (B := w0.heap.size) (below1 _ _)).box hB1.out)); obtain ⟨q0, q1, q2, q3, q4, q5⟩ := box_cells hQ2.out; replace hP2 := hid' hP2; replace hK2 := hid' ((hK1.out.trans (KT.of_below (below1 _ _))).trans hK2))
              | (go_at_call 59; (with_reducible refine (put59 HPt.out _ (by decide)).mono ?_); rintro e v1 ⟨rfl, hP1, hK1⟩; obtain ⟨c0, c1', c2, c3, c4, c5⟩ := HC.out v1 hP1.bel; obtain ⟨a0, a1, a2, a3, a4, a5⟩ := HY.out v1 hP1.bel; have hl1 : b0 < v1.heap.size := Nat.lt_of_lt_of_le hlt hP1.bel.size; have hm1 : b1 < v1.heap.size := Nat.lt_of_lt_of_le hlt1 hP1.bel.size; have hB1 := hid' (hK1.box HB.out); obtain ⟨z0, z1, z2, z3, z4, z5⟩ := box_cells hB1.out; replace hP1 := hid' hP1; replace hK1 := hid' (HKt.out.trans hK1)))
            go_roundw
            case rel => exact ⟨j + 1, by omega, by omega, by go_num, hP4.out.cast (by rw [HN.out, HJ.out, HSP.out]; simp [joinL, lst_app, lst_lit, hn]), hK4.out, hB4.out⟩
            case measure => simp [intOf]; omega
          | false =>
            go_wp2_with (first
              | (go_at_call 59; (with_reducible refine (put59 hP2.out _ (by first | decide | exact sz_1 hsx | exact sz_r hsy (by decide))).mono ?_); rintro e v3 ⟨rfl, hP3, hK3⟩; have hQ3 := hid' (hK3.box hQ2.out); have hB3 := hid' (hK3.box hB2.out); obtain ⟨q0, q1, q2, q3, q4, q5⟩ := box_cells hQ3.out; replace hP3 := hid' hP3; replace hK3 := hid' (hK2.out.trans hK3))
              | (go_at_call 59; (with_reducible refine (put59 (hP1.out.box _) _ (by first | decide | exact sz_1 hsx | exact sz_r hsy (by decide))).mono ?_); rintro e v2 ⟨rfl, hP2, hK2⟩; have hQ2 := hid' (hK2.box (heap_alloc_new v1 (.cells #[.int .i64 kd, .string ps, .int .u32 pn, .bool false, .slice (some ⟨b1, o1, none⟩) 1 c1, .int .i64 pp] 25))); have hB2 := hid' (hK2.box ((KT.of_below (B := w0.heap.size) (below1 _ _)).box hB1.out)); obtain ⟨q0, q1, q2, q3, q4, q5⟩ := box_cells hQ2.out; replace hP2 := hid' hP2; replace hK2 := hid' ((hK1.out.trans (KT.of_below (below1 _ _))).trans hK2))
              | (go_at_call 59; (with_reducible refine (put59 HPt.out _ (by decide)).mono ?_); rintro e v1 ⟨rfl, hP1, hK1⟩; obtain ⟨c0, c1', c2, c3, c4, c5⟩ := HC.out v1 hP1.bel; obtain ⟨a0, a1, a2, a3, a4, a5⟩ := HY.out v1 hP1.bel; have hl1 : b0 < v1.heap.size := Nat.lt_of_lt_of_le hlt hP1.bel.size; have hm1 : b1 < v1.heap.size := Nat.lt_of_lt_of_le hlt1 hP1.bel.size; have hB1 := hid' (hK1.box HB.out); obtain ⟨z0, z1, z2, z3, z4, z5⟩ := box_cells hB1.out; replace hP1 := hid' hP1; replace hK1 := hid' (HKt.out.trans hK1)))
            go_roundw
            case rel => exact ⟨j + 1, by omega, by omega, by go_num, hP3.out.cast (by rw [HN.out, HJ.out, HSP.out]; simp [joinL, lst_app, lst_lit, hn]), hK3.out, hB3.out⟩
            case measure => simp [intOf]; omega
    · have e : j = k := by omega
      subst e
      have hjj : (j : Int) < ((j + 1 : Nat) : Int) := by omega
      go_wp2_with (first
        | (go_at_call 37; (with_reducible refine (HL.out _ _ hP3.out).mono ?_); rintro e w4 ⟨rfl, hP4, hK4⟩; replace hP4 := hid' hP4; replace hK4 := hid' hK4)
        | (go_at_call 59; (with_reducible refine (put59 HPt.out _ (by decide)).mono ?_); rintro e w3 ⟨rfl, hP3, hK3⟩; obtain ⟨c0, c1, c2, c3, c4, c5⟩ := HCL.out w3 hP3.bel; have hl3 : b0 < w3.heap.size := Nat.lt_of_lt_of_le hlt hP3.bel.size; have hB3 := hid' (hK3.box HB.out); obtain ⟨z0, z1, z2, z3, z4, z5⟩ := box_cells hB3.out; replace hP3 := hid' hP3; replace hK3 := hid' hK3))
      go_end0
      exact ⟨rfl, hP4.out.cast (by simp [lst_lit]), HKt.out.trans (hK3.out.trans hK4.out)⟩
end Go.Proofs.YtnnnfabpceapcaaGreatDoor

namespace Go.Proofs.YtnnnfabpceapcaaGreatDoor
set_option linter.unusedSimpArgs false
open Go.RowKit
set_option linter.unusedVariables false
set_option linter.unusedSimpArgs false

theorem kid_s {w0 : World} {cb n : Nat} {ao : Option Addr} {cap : Nat} {ks : List Tr} (hK : Ks cb n w0 (.slice ao ks.length cap) ks) (hg : allL gN ks = true) (i : Nat) (hi : i < ks.length) :
    ∃ m b off x' ka kc' ks', m < n ∧ ao = some ⟨b, off, none⟩ ∧ b < w0.heap.size ∧ NdAt w0 b (off + i * 6) x' (.slice ka (List.length ks') kc') ∧ ks[i] = Tr.node x' ks' ∧ Ks cb m w0 (.slice ka ks'.length kc') ks' ∧ allT gN (Tr.node x' ks') = true := by
  obtain ⟨m, b, off, x', kv', ks', hm, e, ⟨hlt, hne⟩, hei, hc, hk⟩ := hK.kid i hi
  have hgi := g_kid hg i hi
  rw [hei] at hgi
  obtain ⟨_, ka, kc, rfl⟩ := hk.shape
  exact ⟨m, b, off, x', ka, kc, ks', hm, e, hlt, hc, hei, hk, hgi⟩
theorem exat {w0 : World} {tb cb m : Nat} {ka : Option Addr} {kn kc : Nat} {x : NdH} {ks : List Tr} (hk : Ks cb m w0 (.slice ka kn kc) ks) (hg : allT gN (Tr.node x ks) = true) (he : isExpr x ks = true) : ExAt w0 tb x (.slice ka kn kc) 0 (spellT qtL (Tr.node x ks)) := by
  have hE := expression_all (tb := tb) char_ok m hk hg he
  rw [allT_node, Bool.and_eq_true] at hg
  have := at62 hE (gN_may hg.1) 0
  rw [if_pos (lvl_nn _)] at this
  exact this
theorem no_kid {ks : List Tr} (h : ks.length = 0) : ks = [] := List.eq_nil_of_length_eq_zero h
theorem ex_not {x : NdH} {ks : List Tr} {k : Int} (h : isExpr x ks = true) (hk : 15 < k) : ¬ x.kind = k := by
  have := of_decide_eq_true h
  omega
theorem or_k {F : Ask} {k : Int} {x : NdH} {ks : List Tr} (h : orK [F, ofK [k]] x ks = true) : F x ks = true ∨ x.kind = k := by
  rw [orK_cons, orK_cons, orK_nil, Bool.or_false, of_one, Bool.or_eq_true] at h
  rcases h with h | h
  · exact Or.inl h
  · exact Or.inr (eq_of_beq h)
theorem per_no {x : NdH} {ks : List Tr} (h : x.kind = 56) (S : List UInt8) : perL (Tr.node x ks) S = [] := if_pos h
theorem per_ex {x : NdH} {ks : List Tr} (h : ¬ x.kind = 56) (S : List UInt8) : perL (Tr.node x ks) S = S := if_neg h

set_option maxHeartbeats 4000000 in
theorem declared_all {w0 : World} {tb cb n : Nat} {ao : Option Addr} {cap : Nat} {x : NdH} {ks : List Tr} (hK : Ks cb n w0 (.slice ao ks.length cap) ks) (hg : allT gN (Tr.node x ks) = true) (h43 : x.kind = 43) :
    Ex 60 w0 tb x (.slice ao ks.length cap) (spellT qtL (Tr.node x ks)) := by
  rw [allT_node, Bool.and_eq_true] at hg
  have hs := gN_str hg.1
  have hk := gN_kids hg.1
  obtain ⟨kind, str, num, flag, pos⟩ := x
  obtain rfl : kind = 43 := h43
  have hk' : (if flag then areK [orK [isExpr, ofK [56]]] ks || areK [orK [isExpr, ofK [56]], orK [isExpr, ofK [44]]] ks else areK [] ks || areK [isExpr] ks) = true := hk
  cases flag with
  | false =>
    rw [if_neg Bool.noConfusion, Bool.or_eq_true] at hk'
    rcases hk' with h | h
    · obtain rfl := no_kid (are_len h)
      exact spell_of (de60_n0 (kn := 0) hs) (by show lst str ++ ([] ++ []) = lst str; simp)
    · obtain ⟨t0, rfl⟩ := one_kid (are_len h)
      obtain ⟨m, b, off, x0, ka0, kc0, l0, hm, rfl, hlt, hc0, e0, hk0, hg0⟩ := kid_s hK hg.2 0 (by simp)
      have e0' : t0 = Tr.node x0 l0 := e0
      subst e0'
      have hx0 : isExpr x0 l0 = true := are_get h 0 (by simp) (by simp)
      exact spell_of (de60_n1 (kn := 0) (t0 := Tr.node x0 l0) hlt hs hc0 (ex_not hx0 (by omega)) (exat hk0 hg0 hx0)) rfl
  | true =>
    rw [if_pos rfl, Bool.or_eq_true] at hk'
    rcases hk' with h | h
    · obtain ⟨t0, rfl⟩ := one_kid (are_len h)
      have hcap : 1 ≤ cap := hK.room (by simp)
      obtain ⟨m, b, off, x0, ka0, kc0, l0, hm, rfl, hlt, hc0, e0, hk0, hg0⟩ := kid_s hK hg.2 0 (by simp)
      have e0' : t0 = Tr.node x0 l0 := e0
      subst e0'
      rcases or_k (are_get h 0 (by simp) (by simp)) with hx0 | hx0
      · refine spell_of (de60_f1e (kn := 0) (t0 := Tr.node x0 l0) hlt hs hc0 (ex_not hx0 (by omega)) (exat hk0 hg0 hx0) hcap) ?_
        show lst str ++ (([91] ++ (perL (Tr.node x0 l0) (spellT qtL (Tr.node x0 l0)) ++ [93])) ++ []) = _
        rw [per_ex (ex_not hx0 (by omega))]
        simp
      · refine spell_of (de60_f1n (kn := 0) (t0 := Tr.node x0 l0) hlt hs hc0 hx0 hcap) ?_
        show lst str ++ (([91] ++ (perL (Tr.node x0 l0) (spellT qtL (Tr.node x0 l0)) ++ [93])) ++ []) = _
        rw [per_no hx0]
        simp
    · obtain ⟨t0, t1, rfl⟩ := two_kids (are_len h)
      have hcap : 2 ≤ cap := hK.room (by simp)
      obtain ⟨m, b, off, x0, ka0, kc0, l0, hm, rfl, hlt, hc0, e0, hk0, hg0⟩ := kid_s hK hg.2 0 (by simp)
      have e0' : t0 = Tr.node x0 l0 := e0
      subst e0'
      obtain ⟨m1, b1, off1, x1, ka1, kc1, l1, hm1, e, hlt1, hc1, e1, hk1, hg1⟩ := kid_s hK hg.2 1 (by simp)
      have e1' : t1 = Tr.node x1 l1 := e1
      subst e1'
      obtain ⟨rfl, rfl⟩ := kid_addr e
      have e2 : ∀ S0 S1, spellN qtL ⟨43, str, num, true, pos⟩ [Tr.node x0 l0, Tr.node x1 l1] [S0, S1] = lst str ++ (([91] ++ (perL (Tr.node x0 l0) S0 ++ [93])) ++ ([32, 61, 32] ++ S1)) := fun S0 S1 => rfl
      rcases or_k (are_get h 1 (by simp) (by simp)) with hx1 | hx1
      · have hA1 := exat (tb := tb) hk1 hg1 hx1
        rcases or_k (are_get h 0 (by simp) (by simp)) with hx0 | hx0
        · refine spell_of (de60_f2ee (kn := 0) (t0 := Tr.node x0 l0) (t1 := Tr.node x1 l1) hlt hs hc0 hc1 (ex_not hx0 (by omega)) (exat hk0 hg0 hx0) (ex_not hx1 (by omega)) hA1 hcap) ?_
          show spellN qtL _ [_, _] [spellT qtL _, spellT qtL _] = _
          rw [e2, per_ex (ex_not hx0 (by omega))]
          simp
        · refine spell_of (de60_f2ne (kn := 0) (t0 := Tr.node x0 l0) (t1 := Tr.node x1 l1) hlt hs hc0 hc1 hx0 (ex_not hx1 (by omega)) hA1 hcap) ?_
          show spellN qtL _ [_, _] [spellT qtL _, spellT qtL _] = _
          rw [e2, per_no hx0]
          simp
      · rw [allT_node, Bool.and_eq_true] at hg1
        have hk1' := gN_kids hg1.1
        obtain ⟨kd, ls, ln, lf, lp⟩ := x1
        obtain rfl : kd = 44 := hx1
        have hall : (decide (1 ≤ l1.length) && allK isExpr l1) = true := hk1'
        rw [Bool.and_eq_true] at hall
        have hkx : ∀ i (hi : i < l1.length), KidX w0 tb ka1 l1[i] i := fun i hi => kidx char_ok hk1 hg1.2 i hi (List.all_eq_true.1 hall.2 _ (List.getElem_mem hi))
        have hl1 := hk1.shape.1
        have e3 : spellT qtL (Tr.node ⟨44, ls, ln, lf, lp⟩ l1) = [123] ++ (joinL [44, 32] (l1.map (spellT qtL)) ++ [125]) := spellT_node _ _ _
        rcases or_k (are_get h 0 (by simp) (by simp)) with hx0 | hx0
        · refine spell_of (de60_f2el (kn := 0) (t0 := Tr.node x0 l0) (t1 := Tr.node ⟨44, ls, ln, lf, lp⟩ l1) hlt hs hc0 hc1 (ex_not hx0 (by omega)) (exat hk0 hg0 hx0) hl1 hkx rfl rfl hcap) ?_
          show spellN qtL _ [_, _] [spellT qtL _, spellT qtL _] = _
          rw [e2, per_ex (ex_not hx0 (by omega)), e3]
          simp
        · refine spell_of (de60_f2nl (kn := 0) (t0 := Tr.node x0 l0) (t1 := Tr.node ⟨44, ls, ln, lf, lp⟩ l1) hlt hs hc0 hc1 hx0 hl1 hkx rfl rfl hcap) ?_
          show spellN qtL _ [_, _] [spellT qtL _, spellT qtL _] = _
          rw [e2, per_no hx0, e3]
          simp

/-- A parameter, as it lies. -/
theorem par_all {w0 : World} {cb m b0 o0 i : Nat} {ka : Option Addr} {kc : Nat} {x : NdH} {l : List Tr} (hc : NdAt w0 b0 (o0 + i * 6) x (.slice ka l.length kc)) (hk : Ks cb m w0 (.slice ka l.length kc) l) (hg : allT gN (Tr.node x l) = true) (h46 : x.kind = 46) : ParP w0 b0 o0 (Tr.node x l) i := by
  rw [allT_node, Bool.and_eq_true] at hg
  have hs := gN_str hg.1
  have hkk := gN_kids hg.1
  obtain ⟨kind, str, num, flag, pos⟩ := x
  obtain rfl : kind = 46 := h46
  have h : areK [ofK [16]] l = true := hkk
  obtain ⟨t0, rfl⟩ := one_kid (are_len h)
  obtain ⟨m1, b, off, x0, ka0, kc0, l0, hm, rfl, hlt, hc0, e0, hk0, hg0⟩ := kid_s hk hg.2 0 (by simp)
  have e0' : t0 = Tr.node x0 l0 := e0
  rw [allT_node, Bool.and_eq_true] at hg0
  have hty := type_text (are_get h 0 (by simp) (by simp)) e0
  refine ⟨_, b, off, kc, x0, _, hc, hlt, by simpa using hc0, hs, gN_str hg0.1, ?_⟩
  have e2 : ∀ S0, spellN qtL ⟨46, str, num, flag, pos⟩ [t0] [S0] = S0 ++ ([32] ++ ((if num = 1 then [42] else []) ++ (lst str ++ (if flag then [91, 93] else [])))) := fun S0 => rfl
  rw [spellT_node]
  show spellN qtL _ [t0] [spellT qtL t0] = _
  rw [e2]
  have hty' : spellT qtL t0 = lst x0.str := hty
  rw [hty']
end Go.Proofs.YtnnnfabpceapcaaGreatDoor

namespace Go.Proofs.YtnnnfabpceapcaaGreatDoor
set_option linter.unusedSimpArgs false
open Go.RowKit
set_option linter.unusedVariables false
set_option linter.unusedSimpArgs false

/-- What the document's line prints. -/
def isLn (x : NdH) : Prop := x.kind = 41 ∨ x.kind = 42 ∨ x.kind = 45 ∨ (47 ≤ x.kind ∧ x.kind ≤ 56)
theorem ln_st {x : NdH} {ks : List Tr} (h : isStmt x ks = true) : isLn x := Or.inr (Or.inr (Or.inr (of_decide_eq_true h)))
/-- What is told of the kids. -/
def KidW (w0 : World) (tb cb : Nat) (ao : Option Addr) (ks : List Tr) : Prop := ∀ i (hi : i < ks.length),
  ∃ m b off x' ka kc' ks', ao = some ⟨b, off, none⟩ ∧ b < w0.heap.size ∧ NdAt w0 b (off + i * 6) x' (.slice ka (List.length ks') kc') ∧ ks[i] = Tr.node x' ks' ∧ Ks cb m w0 (.slice ka ks'.length kc') ks' ∧ allT gN (Tr.node x' ks') = true ∧ (isLn x' → Ex 37 w0 tb x' (.slice ka ks'.length kc') (spellT qtL (Tr.node x' ks')))
theorem kidl {w0 : World} {tb cb : Nat} {ao : Option Addr} {ks : List Tr} (hW : KidW w0 tb cb ao ks) (i : Nat) (hi : i < ks.length) (h : ∀ x l, ks[i] = Tr.node x l → isLn x) : KidL w0 tb ao ks[i] i := by
  obtain ⟨m, b, off, x', ka, kc, l, e, hlt, hc, ei, hk, hg, hL⟩ := hW i hi
  exact ⟨b, off, x', _, e, hlt, hc, by rw [ei]; exact hL (h _ _ ei)⟩
theorem func_par {t0 t1 : Tr} {r : List Tr} (h : allK (ofK [46]) ((t1 :: r).take r.length) = true) (i : Nat) (h1 : 1 ≤ i) (h2 : i < r.length + 1) (hi : i < (t0 :: t1 :: r).length) : onT (ofK [46]) (t0 :: t1 :: r)[i] = true := by
  obtain ⟨j, rfl⟩ : ∃ j, i = j + 1 := ⟨i - 1, by omega⟩
  have hj : j < ((t1 :: r).take r.length).length := by rw [List.length_take, List.length_cons]; omega
  have := List.all_eq_true.1 h _ (List.getElem_mem hj)
  rw [List.getElem_take] at this
  exact this
theorem func_form {ks : List Tr} (h : funcF ks = true) : ∃ t0 t1 r, ks = t0 :: t1 :: r ∧ onT (ofK [16]) t0 = true ∧ allK (ofK [46]) ((t1 :: r).take r.length) = true ∧ onT (ofK [47]) ((t1 :: r)[r.length]'(by simp)) = true := by
  match ks, h with
  | t0 :: t1 :: r, h =>
    unfold funcF at h
    rw [Bool.and_eq_true, Bool.and_eq_true] at h
    exact ⟨t0, t1, r, rfl, h.1, h.2.1, h.2.2⟩
theorem vars_form {ks : List Tr} (h : varsF ks = true) : ∃ t0 t1 r, ks = t0 :: t1 :: r ∧ onT (ofK [16]) t0 = true ∧ allK (ofK [43]) (t1 :: r) = true := by
  match ks, h with
  | t0 :: t1 :: r, h =>
    unfold varsF at h
    rw [Bool.and_eq_true] at h
    exact ⟨t0, t1, r, rfl, h.1, h.2⟩
theorem vars_var {t0 : Tr} {r : List Tr} (h : allK (ofK [43]) r = true) (i : Nat) (h1 : 1 ≤ i) (hi : i < (t0 :: r).length) : onT (ofK [43]) (t0 :: r)[i] = true := by
  obtain ⟨j, rfl⟩ : ∃ j, i = j + 1 := ⟨i - 1, by omega⟩
  exact List.all_eq_true.1 h _ (List.getElem_mem (by simpa using hi))
theorem fn_text {str : ByteArray} {num pos : Int} {flag : Bool} (t0 t1 : Tr) (r : List Tr) : spellN qtL ⟨45, str, num, flag, pos⟩ (t0 :: t1 :: r) ((t0 :: t1 :: r).map (spellT qtL)) = spellT qtL t0 ++ ([32] ++ (lst str ++ ([40] ++ (joinL [44, 32] ((((t0 :: t1 :: r).take (r.length + 1)).drop 1).map (spellT qtL)) ++ ([41, 32] ++ spellT qtL ((t1 :: r)[r.length]'(by simp))))))) := by
  have e : ∀ ss : List (List UInt8), spellN qtL ⟨45, str, num, flag, pos⟩ (t0 :: t1 :: r) ss = ss.getD 0 [] ++ ([32] ++ (lst str ++ ([40] ++ (joinL [44, 32] ((ss.drop 1).take (ss.length - 2)) ++ ([41, 32] ++ ss.getD (ss.length - 1) []))))) := fun ss => rfl
  rw [e]
  have e1 : ((t0 :: t1 :: r).map (spellT qtL)).length = r.length + 2 := by simp
  have e2 : ((t0 :: t1 :: r).map (spellT qtL)).getD (r.length + 1) [] = spellT qtL ((t1 :: r)[r.length]'(by simp)) := by
    rw [List.getD_eq_getElem?_getD, List.getElem?_map]
    rw [show (t0 :: t1 :: r)[r.length + 1]? = (t1 :: r)[r.length]? from rfl, List.getElem?_eq_getElem (by simp)]
    rfl
  have e3 : (((t0 :: t1 :: r).map (spellT qtL)).drop 1).take (r.length + 2 - 2) = (((t0 :: t1 :: r).take (r.length + 1)).drop 1).map (spellT qtL) := by
    show ((t1 :: r).map (spellT qtL)).take r.length = ((t1 :: r).take r.length).map (spellT qtL)
    rw [List.map_take]
  rw [e1, e3, show r.length + 2 - 1 = r.length + 1 from rfl, e2]
  rfl

set_option maxHeartbeats 8000000 in
set_option maxRecDepth 20000 in
theorem line_step {w0 : World} {tb cb : Nat} {x : NdH} {ao : Option Addr} {cap : Nat} {ks : List Tr} (hlen : ks.length ≤ 9223372036854775807) (hg : gN x ks = true) (hW : KidW w0 tb cb ao ks) (hln : isLn x) :
    Ex 37 w0 tb x (.slice ao ks.length cap) (spellT qtL (Tr.node x ks)) := by
  have hs := gN_str hg
  have hk := gN_kids hg
  obtain ⟨kind, str, num, flag, pos⟩ := x
  have hcase : kind = 41 ∨ kind = 42 ∨ kind = 45 ∨ kind = 47 ∨ kind = 48 ∨ kind = 49 ∨ kind = 50 ∨ kind = 51 ∨ kind = 52 ∨ kind = 53 ∨ kind = 54 ∨ kind = 55 ∨ kind = 56 := by
    unfold isLn at hln
    dsimp only at hln
    omega
  dsimp only at hs
  rcases hcase with rfl | rfl | rfl | rfl | rfl | rfl | rfl | rfl | rfl | rfl | rfl | rfl | rfl
  · have hk' : allK bareK ks = true := hk
    refine spell_of (li37_41 (kn := 0) hs hlen (fun i hi => kidl hW i hi (fun x l e => ?_))) rfl
    have := List.all_eq_true.1 hk' _ (List.getElem_mem hi)
    rw [e, onT_node] at this
    unfold bareK at this
    rw [Bool.and_eq_true] at this
    exact Or.inr (Or.inl (of_decide_eq_true this.1))
  · obtain ⟨t0, t1, r, rfl, h0, h1⟩ := vars_form hk
    obtain ⟨m, b, off, x0, ka0, kc0, l0, rfl, hlt, hc0, e0, hk0, hg0, hL0⟩ := hW 0 (by simp)
    have hty := type_text h0 e0
    rw [allT_node, Bool.and_eq_true] at hg0
    refine spell_of (li37_42 hlt hlen (by simp) hc0 (gN_str hg0.1) (fun i hi h1i => ?_)) ?_
    · obtain ⟨m, b', off', x', ka, kc, l, e, hlt', hc, ei, hki, hgi, hLi⟩ := hW i hi
      obtain ⟨rfl, rfl⟩ := kid_addr e
      have h43 := vars_var h1 i h1i hi
      rw [ei, onT_node, of_one] at h43
      exact ⟨x', _, hc, by rw [ei]; exact declared_all hki hgi (eq_of_beq h43)⟩
    · show spellT qtL t0 ++ ([32] ++ (joinL [44, 32] ((t1 :: r).map (spellT qtL)) ++ [59, 10])) = _
      have hty' : spellT qtL t0 = lst x0.str := hty
      rw [hty']
      rfl
  · obtain ⟨t0, t1, r, rfl, h0, h1, h2⟩ := func_form hk
    obtain ⟨m, b, off, x0, ka0, kc0, l0, rfl, hlt, hc0, e0, hk0, hg0, hL0⟩ := hW 0 (by simp)
    have hty := type_text h0 e0
    rw [allT_node, Bool.and_eq_true] at hg0
    obtain ⟨ml, bl, ol, xl, kal, kcl, ll, el, hltl, hcl, eil, hkl, hgl, hLl⟩ := hW (r.length + 1) (by simp)
    obtain ⟨rfl, rfl⟩ := kid_addr el
    have eil' : (t1 :: r)[r.length]'(by simp) = Tr.node xl ll := eil
    rw [eil', onT_node, of_one] at h2
    have hLL := hLl (Or.inr (Or.inr (Or.inr (by have := eq_of_beq h2; omega))))
    refine li37_45 hs (spell_of (fu61 (k := r.length + 1) (ks := t0 :: t1 :: r) hlt (by simp) (by omega) (by simpa using hlen) hs hc0 (gN_str hg0.1) (fun i hi h1i h2i => ?_) hcl hLL) ?_)
    · obtain ⟨m, b', off', x', ka, kc, l, e, hlt', hc, ei, hki, hgi, hLi⟩ := hW i hi
      obtain ⟨rfl, rfl⟩ := kid_addr e
      have h46 := func_par h1 i h1i h2i hi
      rw [ei, onT_node, of_one] at h46
      rw [ei]
      exact par_all hc hki hgi (eq_of_beq h46)
    · rw [fn_text, eil']
      have hty' : spellT qtL t0 = lst x0.str := hty
      rw [hty']
  · have hk' : allK (orK [isStmt, ofK [42]]) ks = true := hk
    refine spell_of (li37_47 (kn := 0) hs hlen (fun i hi => kidl hW i hi (fun x l e => ?_))) rfl
    have := List.all_eq_true.1 hk' _ (List.getElem_mem hi)
    rw [e, onT_node] at this
    rcases or_k this with h | h
    · exact ln_st h
    · exact Or.inr (Or.inl h)
  · have hk' : areK [isExpr] ks = true := hk
    obtain ⟨t0, rfl⟩ := one_kid (are_len hk')
    obtain ⟨m, b, off, x0, ka0, kc0, l0, rfl, hlt, hc0, e0, hk0, hg0, hL0⟩ := hW 0 (by simp)
    have e0' : t0 = Tr.node x0 l0 := e0
    subst e0'
    exact spell_of (li37_48 (kn := 0) (t0 := Tr.node x0 l0) hlt hs hc0 (exat hk0 hg0 (are_get hk' 0 (by simp) (by simp)))) rfl
  · have hk' : (areK [isExpr, isStmt] ks || areK [isExpr, closedK, isStmt] ks) = true := hk
    rw [Bool.or_eq_true] at hk'
    rcases hk' with hk' | hk'
    · obtain ⟨t0, t1, rfl⟩ := two_kids (are_len hk')
      obtain ⟨m, b, off, x0, ka0, kc0, l0, rfl, hlt, hc0, e0, hk0, hg0, hL0⟩ := hW 0 (by simp)
      have e0' : t0 = Tr.node x0 l0 := e0
      subst e0'
      obtain ⟨m1, b1, off1, x1, ka1, kc1, l1, e, hlt1, hc1, e1, hk1, hg1, hL1⟩ := hW 1 (by simp)
      have e1' : t1 = Tr.node x1 l1 := e1
      subst e1'
      obtain ⟨rfl, rfl⟩ := kid_addr e
      exact spell_of (li37_49_2 (kn := 0) (t0 := Tr.node x0 l0) (t1 := Tr.node x1 l1) hlt hs hc0 hc1 (exat hk0 hg0 (are_get hk' 0 (by simp) (by simp))) (hL1 (ln_st (ks := l1) (are_get hk' 1 (by simp) (by simp))))) rfl
    · obtain ⟨t0, t1, t2, rfl⟩ := three_kids (are_len hk')
      obtain ⟨m, b, off, x0, ka0, kc0, l0, rfl, hlt, hc0, e0, hk0, hg0, hL0⟩ := hW 0 (by simp)
      have e0' : t0 = Tr.node x0 l0 := e0
      subst e0'
      obtain ⟨m1, b1, off1, x1, ka1, kc1, l1, e, hlt1, hc1, e1, hk1, hg1, hL1⟩ := hW 1 (by simp)
      have e1' : t1 = Tr.node x1 l1 := e1
      subst e1'
      obtain ⟨rfl, rfl⟩ := kid_addr e
      obtain ⟨m2, b2, off2, x2, ka2, kc2, l2, e', hlt2, hc2, e2, hk2, hg2, hL2⟩ := hW 2 (by simp)
      have e2' : t2 = Tr.node x2 l2 := e2
      subst e2'
      obtain ⟨rfl, rfl⟩ := kid_addr e'
      have hcl : closedK x1 l1 = true := are_get hk' 1 (by simp) (by simp)
      unfold closedK at hcl
      rw [Bool.and_eq_true] at hcl
      exact spell_of (li37_49_3 (kn := 0) (t0 := Tr.node x0 l0) (t1 := Tr.node x1 l1) (t2 := Tr.node x2 l2) hlt hs hc0 hc1 hc2 (exat hk0 hg0 (are_get hk' 0 (by simp) (by simp))) (hL1 (ln_st hcl.1)) (hL2 (ln_st (ks := l2) (are_get hk' 2 (by simp) (by simp))))) rfl
  · have hk' : areK [isExpr, isStmt] ks = true := hk
    obtain ⟨t0, t1, rfl⟩ := two_kids (are_len hk')
    obtain ⟨m, b, off, x0, ka0, kc0, l0, rfl, hlt, hc0, e0, hk0, hg0, hL0⟩ := hW 0 (by simp)
    have e0' : t0 = Tr.node x0 l0 := e0
    subst e0'
    obtain ⟨m1, b1, off1, x1, ka1, kc1, l1, e, hlt1, hc1, e1, hk1, hg1, hL1⟩ := hW 1 (by simp)
    have e1' : t1 = Tr.node x1 l1 := e1
    subst e1'
    obtain ⟨rfl, rfl⟩ := kid_addr e
    exact spell_of (li37_50 (kn := 0) (t0 := Tr.node x0 l0) (t1 := Tr.node x1 l1) hlt hs hc0 hc1 (exat hk0 hg0 (are_get hk' 0 (by simp) (by simp))) (hL1 (ln_st (ks := l1) (are_get hk' 1 (by simp) (by simp))))) rfl
  · have hk' : areK [isStmt, isExpr] ks = true := hk
    obtain ⟨t0, t1, rfl⟩ := two_kids (are_len hk')
    obtain ⟨m, b, off, x0, ka0, kc0, l0, rfl, hlt, hc0, e0, hk0, hg0, hL0⟩ := hW 0 (by simp)
    have e0' : t0 = Tr.node x0 l0 := e0
    subst e0'
    obtain ⟨m1, b1, off1, x1, ka1, kc1, l1, e, hlt1, hc1, e1, hk1, hg1, hL1⟩ := hW 1 (by simp)
    have e1' : t1 = Tr.node x1 l1 := e1
    subst e1'
    obtain ⟨rfl, rfl⟩ := kid_addr e
    exact spell_of (li37_51 (kn := 0) (t0 := Tr.node x0 l0) (t1 := Tr.node x1 l1) hlt hs hc0 hc1 (hL0 (ln_st (ks := l0) (are_get hk' 0 (by simp) (by simp)))) (exat hk1 hg1 (are_get hk' 1 (by simp) (by simp)))) rfl
  · have hk' : areK [orK [isExpr, ofK [56]], orK [isExpr, ofK [56]], orK [isExpr, ofK [56]], isStmt] ks = true := hk
    obtain ⟨t0, t1, t2, t3, rfl⟩ := four_kids (are_len hk')
    obtain ⟨m3, b, off, x3, ka3, kc3, l3, rfl, hlt, hc3, e3, hk3, hg3, hL3⟩ := hW 3 (by simp)
    have e3' : t3 = Tr.node x3 l3 := e3
    have hst : isStmt x3 l3 = true := by
      have := are_get hk' 3 (by simp) (by simp)
      rw [show [t0, t1, t2, t3][3] = Tr.node x3 l3 from e3] at this
      exact this
    refine li37_52 hs (spell_of (lo64 hlt (fun i => perL ([t0, t1, t2, t3].getD i noT) (spellT qtL ([t0, t1, t2, t3].getD i noT))) (fun i hi => ?_) hc3 (hL3 (ln_st hst))) ?_)
    · have hi4 : i < [t0, t1, t2, t3].length := by simp; omega
      obtain ⟨m, b', off', x', ka, kc, l, e, hlt', hc, ei, hki, hgi, hLi⟩ := hW i hi4
      obtain ⟨rfl, rfl⟩ := kid_addr e
      have hor : orK [isExpr, ofK [56]] x' l = true := by
        have hF : ∀ (F : Ask), F = orK [isExpr, ofK [56]] → onT F [t0, t1, t2, t3][i] = true → orK [isExpr, ofK [56]] x' l = true := fun F hF h => by
          rw [hF, ei] at h
          exact h
        have hi3 : i = 0 ∨ i = 1 ∨ i = 2 := by omega
        rcases hi3 with rfl | rfl | rfl
        · exact hF _ rfl (are_get hk' 0 (by simp) (by simp))
        · exact hF _ rfl (are_get hk' 1 (by simp) (by simp))
        · exact hF _ rfl (are_get hk' 2 (by simp) (by simp))
      have eD : [t0, t1, t2, t3].getD i noT = Tr.node x' l := by
        rw [List.getD_eq_getElem?_getD, List.getElem?_eq_getElem hi4, ei]
        rfl
      refine ⟨x', _, hc, ?_⟩
      rw [eD]
      rcases or_k hor with h | h
      · exact Or.inr ⟨ex_not h (by omega), by rw [per_ex (ex_not h (by omega))]; exact exat hki hgi h⟩
      · exact Or.inl ⟨h, per_no h _⟩
    · have e4 : spellT qtL t3 = spellT qtL (Tr.node x3 l3) := by rw [← e3']
      rw [← e4]
      show [102, 111, 114, 32, 40] ++ (perL t0 (spellT qtL t0) ++ ([59, 32] ++ (perL t1 (spellT qtL t1) ++ ([59, 32] ++ (perL t2 (spellT qtL t2) ++ ([41, 10] ++ spellT qtL t3)))))) = [102, 111, 114, 32, 40] ++ (((perL t0 (spellT qtL t0) ++ ([59, 32] ++ perL t1 (spellT qtL t1))) ++ ([59, 32] ++ perL t2 (spellT qtL t2))) ++ ([41, 10] ++ spellT qtL t3))
      simp
  · exact spell_of (li37_53 hs) rfl
  · exact spell_of (li37_54 hs) rfl
  · have hk' : (areK [] ks || areK [isExpr] ks) = true := hk
    rw [Bool.or_eq_true] at hk'
    rcases hk' with hk' | hk'
    · obtain rfl := no_kid (are_len hk')
      exact spell_of (li37_55_0 (kn := 0) hs) rfl
    · obtain ⟨t0, rfl⟩ := one_kid (are_len hk')
      obtain ⟨m, b, off, x0, ka0, kc0, l0, rfl, hlt, hc0, e0, hk0, hg0, hL0⟩ := hW 0 (by simp)
      have e0' : t0 = Tr.node x0 l0 := e0
      subst e0'
      exact spell_of (li37_55_1 (kn := 0) (t0 := Tr.node x0 l0) hlt hs hc0 (exat hk0 hg0 (are_get hk' 0 (by simp) (by simp)))) rfl
  · exact spell_of (li37_56 hs) rfl

theorem line_all {cb : Nat} {w0 : World} {tb : Nat} : ∀ (n : Nat) {x : NdH} {kv : Value} {ks : List Tr}, Ks cb n w0 kv ks → allT gN (Tr.node x ks) = true → isLn x → Ex 37 w0 tb x kv (spellT qtL (Tr.node x ks)) := fun n => by
  induction n using Nat.strongRecOn with
  | ind n ih =>
  intro x kv ks hK hg hx
  rw [allT_node, Bool.and_eq_true] at hg
  obtain ⟨hlen, ao, cap, rfl⟩ := hK.shape
  refine line_step (cb := cb) hlen hg.1 (fun i hi => ?_) hx
  obtain ⟨m, b, off, x', ka, kc, ks', hm, e, hlt, hc, ei, hk, hgi⟩ := kid_s hK hg.2 i hi
  exact ⟨m, b, off, x', ka, kc, ks', e, hlt, hc, ei, hk, hgi, fun h => ih m hm hk hgi h⟩
end Go.Proofs.YtnnnfabpceapcaaGreatDoor
