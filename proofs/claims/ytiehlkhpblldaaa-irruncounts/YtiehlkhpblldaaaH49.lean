/- With more fuel what has ended ends the same, and what was put goes on: in the plain. -/
import Derived.Test.YtiehlkhpblldaaaH32
import Derived.Test.YtiehlkhpblldaaaH35
import Derived.Test.YtiehlkhpblldaaaH46
set_option linter.unusedVariables false
set_option linter.unusedSimpArgs false
set_option maxRecDepth 20000
set_option maxHeartbeats 8000000
namespace Go.Proofs.Ytiehlkhpblldaaa
open Go.RowKit Go.Maps

section
variable {C : Cst} {m : Int} {s : St} {c : Cl} {l : List Rg}
end
end Go.Proofs.Ytiehlkhpblldaaa

namespace Go.Proofs.Ytiehlkhpblldaaa
open Go.RowKit Go.Maps
section
variable {C : Cst} {m : Int}
/-- A run ends. -/
theorem run_ends (P : PgOk C.p) : ∀ (n : Nat) (s : St), Kpt C s → (s.kind = 0 → s.fuel.toNat < n) → (runN C n s).kind ≠ 0
  | 0, s, h, hf => fun h0 => by have := hf h0; omega
  | n + 1, s, h, hf => by
    by_cases hk : s.kind = 0
    · rw [runN_step C hk]
      have hG := h.2 hk
      refine run_ends P n _ (step_kpt hG P) (fun h0 => ?_)
      obtain ⟨_, m2, m3⟩ := mono_step C s
      have h1 := hf hk
      have h2 : 1 ≤ s.fuel := by
        by_cases h3 : s.fuel < 1
        · have := m3 h3
          omega
        · omega
      obtain ⟨c, hc, _⟩ := hG.top
      have := m2 h2 (fun e => by rw [e] at hc; cases hc)
      omega
    · rw [runN_end C hk]
      exact hk
theorem runF_ends (P : PgOk C.p) {fuel : Int} (hf : fuel ≤ 32768) : (runF C fuel).kind ≠ 0 := by
  refine run_ends P _ _ (st1_kpt P hf) (fun _ => ?_)
  have : (st1 C fuel).fuel ≤ fuel := (mono_ent C (st0 C.p fuel) C.p.main.toNat (fnOf C C.p.main.toNat) []).fuel
  omega
end
end Go.Proofs.Ytiehlkhpblldaaa
namespace Go.Proofs.Ytiehlkhpblldaaa
open Go.RowKit Go.Maps

/-- A register as it stands. -/
def cur (s : St) (fn i : Nat) : Rg := (regsOf s fn).getD i ⟨0, 0⟩
/-- What a register was ahead of what is hidden. -/
def first (hs : List Hd) (fn i : Nat) : Option Rg := (hs.find? (fun e => decide (e.fn = fn ∧ e.ix = i))).map Hd.was
def und (hs : List Hd) (fn i : Nat) (x : Rg) : Rg := (first hs fn i).getD x
theorem first_snoc (hs : List Hd) (e : Hd) (fn i : Nat) : first (hs ++ [e]) fn i = match first hs fn i with
    | some x => some x
    | none => if e.fn = fn ∧ e.ix = i then some e.was else none := by
  unfold first
  rw [List.find?_append]
  cases h : hs.find? (fun e => decide (e.fn = fn ∧ e.ix = i)) with
  | some x => simp
  | none =>
    by_cases he : e.fn = fn ∧ e.ix = i
    · simp [he]
    · simp [he]
theorem first_cons (hs : List Hd) (e : Hd) (fn i : Nat) : first (e :: hs) fn i = if e.fn = fn ∧ e.ix = i then some e.was else first hs fn i := by
  unfold first
  by_cases he : e.fn = fn ∧ e.ix = i
  · simp [he]
  · rw [List.find?_cons_of_neg (by simpa using he), if_neg he]
theorem getR_cur (s : St) (fn i : Nat) (no : Int) : getR (regsOf s fn) i no = if (cur s fn i).o = no then (cur s fn i).v else 0 := rfl
theorem cur_set {s : St} {fn : Nat} {l : List Rg} (hb : s.banks[fn]? = some (some l)) {i : Nat} (hi : i < l.length) (y : Rg) (hs : List Hd) (fn' i' : Nat) : cur { s with hidden := hs, banks := s.banks.set fn (some (l.set i y)) } fn' i' = if fn' = fn ∧ i' = i then y else cur s fn' i' := by
  have hlt := (List.getElem?_eq_some_iff.1 hb).1
  have hg : s.banks[fn] = some l := (List.getElem?_eq_some_iff.1 hb).2
  unfold cur regsOf
  dsimp only
  by_cases e : fn' = fn
  · subst e
    have e1 : (s.banks.set fn' (some (l.set i y))).getD fn' none = some (l.set i y) := by simp [List.getD, hlt]
    have e2 : s.banks.getD fn' none = some l := by simp [List.getD, hlt, hg]
    rw [e1, e2]
    by_cases e3 : i' = i
    · subst e3
      rw [if_pos ⟨rfl, rfl⟩]
      simp [List.getD, hi]
    · rw [if_neg (fun q => e3 q.2)]
      simp only [Option.getD_some, List.getD]
      rw [List.getElem?_set_ne (by omega)]
  · rw [if_neg (fun q => e q.1)]
    have e1 : (s.banks.set fn (some (l.set i y))).getD fn' none = s.banks.getD fn' none := by
      simp only [List.getD]
      rw [List.getElem?_set_ne (by omega)]
    rw [e1]
/-- What was hidden is laid back. -/
theorem undo_cur : ∀ (hs : List Hd) (s : St) (H : List Hd), HidOk s → s.hidden = H ++ hs → (undoN hs.length s).hidden = H ∧ HidOk (undoN hs.length s) ∧ ∀ fn i, cur (undoN hs.length s) fn i = und hs fn i (cur s fn i)
  | [], s, H, h, e => ⟨show s.hidden = H by rw [e]; simp, h, fun fn i => rfl⟩
  | e0 :: hs, s, H, h, e => by
    obtain ⟨h1, h2, h3⟩ := undo_cur hs s (H ++ [e0]) h (by rw [e]; simp)
    show (undo1 (undoN hs.length s)).hidden = H ∧ HidOk (undo1 (undoN hs.length s)) ∧ ∀ fn i, cur (undo1 (undoN hs.length s)) fn i = und (e0 :: hs) fn i (cur s fn i)
    generalize undoN hs.length s = s1 at *
    have hl : s1.hidden.getLast? = some e0 := by rw [h1]; simp
    obtain ⟨l, hb, hi⟩ := h2 e0 (by rw [h1]; simp)
    have hok := undo1_ok h2
    rw [undo1_is hl hb] at hok ⊢
    refine ⟨by dsimp only; rw [h1]; simp, hok, fun fn i => ?_⟩
    rw [cur_set hb hi, h3]
    unfold und
    rw [first_cons]
    by_cases he : fn = e0.fn ∧ i = e0.ix
    · rw [if_pos he, if_pos ⟨he.1.symm, he.2.symm⟩]
      rfl
    · rw [if_neg he, if_neg (fun q => he ⟨q.1.symm, q.2.symm⟩)]
/-- What stands ahead of a call. -/
structure Bs where
  hid : List Hd
  bk : Nat → Nat → Rg
  no : Int
  calls : List Cl
/-- A call keeps what stands ahead of it. -/
structure InvB (B : Bs) (s : St) : Prop where
  und : ∃ hs, s.hidden = B.hid ++ hs ∧ (∀ fn i, und hs fn i (cur s fn i) = B.bk fn i) ∧ ∀ fn i, B.no < (cur s fn i).o → (first hs fn i).isSome = true
/-- No register is of a call that has not begun. -/
structure OwnLe (s : St) : Prop where
  c : ∀ fn i, (cur s fn i).o ≤ s.begun
  h : ∀ e ∈ s.hidden, e.was.o ≤ s.begun
theorem setS_cur {s : St} {c : Cl} {l : List Rg} (hb : s.banks[c.fn]? = some (some l)) {i : Nat} (hi : i < l.length) (v : Int) (fn' i' : Nat) : cur (setS s c l i v) fn' i' = if fn' = c.fn ∧ i' = i then ⟨v, c.no⟩ else cur s fn' i' := cur_set hb hi _ _ _ _
theorem cur_bank {s : St} {fn : Nat} {l : List Rg} (hb : s.banks[fn]? = some (some l)) (i : Nat) : cur s fn i = l.getD i ⟨0, 0⟩ := by
  unfold cur regsOf
  have hlt := (List.getElem?_eq_some_iff.1 hb).1
  have hg : s.banks[fn] = some l := (List.getElem?_eq_some_iff.1 hb).2
  rw [show s.banks.getD fn none = some l by simp [List.getD, hlt, hg]]
  rfl
theorem regs_bank {s : St} {fn : Nat} {l : List Rg} (hb : s.banks[fn]? = some (some l)) : regsOf s fn = l := by
  unfold regsOf
  have hlt := (List.getElem?_eq_some_iff.1 hb).1
  have hg : s.banks[fn] = some l := (List.getElem?_eq_some_iff.1 hb).2
  rw [show s.banks.getD fn none = some l by simp [List.getD, hlt, hg]]
  rfl
theorem inv_set {B : Bs} {s : St} {c : Cl} {l : List Rg} (h : InvB B s) (hb : s.banks[c.fn]? = some (some l)) {i : Nat} (hi : i < l.length) (hn : B.no < c.no) (v : Int) : InvB B (setS s c l i v) := by
  obtain ⟨hs, e, hu, ha⟩ := h.und
  have hcl := cur_bank hb i
  by_cases ho : (l.getD i ⟨0, 0⟩).o = c.no
  · have eh : (setS s c l i v).hidden = s.hidden := by unfold setS; dsimp only; rw [if_pos ho]
    have hsome := ha c.fn i (by rw [hcl, ho]; exact hn)
    refine ⟨hs, by rw [eh]; exact e, fun fn' i' => ?_, fun fn' i' hno => ?_⟩
    · rw [setS_cur hb hi]
      by_cases q : fn' = c.fn ∧ i' = i
      · rw [if_pos q]
        obtain ⟨q1, q2⟩ := q
        subst q1 q2
        rw [← hu]
        unfold und
        obtain ⟨x, hx⟩ := Option.isSome_iff_exists.1 hsome
        rw [hx]
        rfl
      · rw [if_neg q]
        exact hu fn' i'
    · rw [setS_cur hb hi] at hno
      by_cases q : fn' = c.fn ∧ i' = i
      · obtain ⟨q1, q2⟩ := q
        subst q1 q2
        exact hsome
      · rw [if_neg q] at hno
        exact ha fn' i' hno
  · have eh : (setS s c l i v).hidden = s.hidden ++ [⟨c.fn, i, l.getD i ⟨0, 0⟩⟩] := by unfold setS; dsimp only; rw [if_neg ho]
    refine ⟨hs ++ [⟨c.fn, i, l.getD i ⟨0, 0⟩⟩], by rw [eh, e, List.append_assoc], fun fn' i' => ?_, fun fn' i' hno => ?_⟩
    · rw [setS_cur hb hi]
      unfold und
      rw [first_snoc]
      have hui := hu fn' i'
      unfold und at hui
      by_cases q : fn' = c.fn ∧ i' = i
      · obtain ⟨q1, q2⟩ := q
        subst q1 q2
        cases hf : first hs c.fn i' with
        | some x => rw [hf] at hui; exact hui
        | none =>
          rw [hf, hcl] at hui
          dsimp only
          rw [if_pos ⟨rfl, rfl⟩]
          exact hui
      · rw [if_neg q]
        cases hf : first hs fn' i' with
        | some x => rw [hf] at hui; exact hui
        | none =>
          rw [hf] at hui
          dsimp only
          rw [if_neg (fun z => q ⟨z.1.symm, z.2.symm⟩)]
          exact hui
    · rw [setS_cur hb hi] at hno
      rw [first_snoc]
      cases hf : first hs fn' i' with
      | some x => rfl
      | none =>
        dsimp only
        by_cases q : fn' = c.fn ∧ i' = i
        · rw [if_pos ⟨q.1.symm, q.2.symm⟩]
          rfl
        · rw [if_neg q] at hno
          have := ha fn' i' hno
          rw [hf] at this
          cases this
theorem own_set {s : St} {c : Cl} {l : List Rg} (h : OwnLe s) (hb : s.banks[c.fn]? = some (some l)) {i : Nat} (hi : i < l.length) (hn : c.no ≤ s.begun) (v : Int) : OwnLe (setS s c l i v) := by
  refine ⟨fun fn' i' => ?_, fun e he => ?_⟩
  · rw [setS_cur hb hi]
    show _ ≤ s.begun
    split
    · exact hn
    · exact h.c fn' i'
  · show _ ≤ s.begun
    unfold setS at he
    dsimp only at he
    split at he
    · exact h.h e he
    · rcases List.mem_append.1 he with he | he
      · exact h.h e he
      · simp only [List.mem_singleton] at he
        subst he
        have := h.c c.fn i
        rw [cur_bank hb] at this
        exact this
/-- A call is left: all is as it was ahead of it. -/
theorem left_cur {B : Bs} {s : St} {c : Cl} {slots : Int} (h : InvB B s) (hH : HidOk s) (hd : c.hd = B.hid.length) : (leftS s c slots).hidden = B.hid ∧ ∀ fn i, cur (leftS s c slots) fn i = B.bk fn i := by
  obtain ⟨hs, e, hu, _⟩ := h.und
  have hn : s.hidden.length - c.hd = hs.length := by rw [e, hd]; simp
  obtain ⟨h1, _, h3⟩ := undo_cur hs s B.hid hH e
  unfold leftS popF
  rw [hn]
  refine ⟨h1, fun fn i => ?_⟩
  have : cur (undoN hs.length s) fn i = B.bk fn i := by rw [h3, hu]
  exact this
end Go.Proofs.Ytiehlkhpblldaaa
namespace Go.Proofs.Ytiehlkhpblldaaa
open Go.RowKit Go.Maps

theorem or_u32 (a b : Nat) (ha : a < 4294967296) (hb : b < 4294967296) : bits .or .u32 (a : Int) (b : Int) = ((a ||| b : Nat) : Int) := by
  have hlt : a ||| b < 4294967296 := Nat.or_lt_two_pow (n := 32) ha hb
  have e : (BitVec.ofInt 32 (a : Int) ||| BitVec.ofInt 32 (b : Int)).toNat = a ||| b := by
    rw [BitVec.toNat_or, BitVec.ofInt_natCast, BitVec.ofInt_natCast, BitVec.toNat_ofNat, BitVec.toNat_ofNat, Nat.mod_eq_of_lt ha, Nat.mod_eq_of_lt hb]
  show IntKind.u32.wrap ((BitVec.ofInt 32 (a : Int) ||| BitVec.ofInt 32 (b : Int)).toNat : Int) = _
  rw [e]
  simp [IntKind.wrap, IntKind.bits, IntKind.signed]
  omega
theorem or_high (i a b : Nat) (h : a < 2 ^ i) : a ||| b * 2 ^ i = a + b * 2 ^ i := by
  have := Nat.shiftLeft_add_eq_or_of_lt h b
  rw [Nat.shiftLeft_eq] at this
  rw [Nat.or_comm, ← this, Nat.add_comm]
theorem or_part (i k x y : Nat) (hk : k = 2 ^ i) (hx : x < k) (hs : x + y * k < 4294967296) : bits .or .u32 (x : Int) ((y * k : Nat) : Int) = ((x + y * k : Nat) : Int) := by
  subst hk
  rw [or_u32 x (y * 2 ^ i) (by omega) (by omega), or_high i x y hx]
theorem or_int (i : Nat) (k x y : Int) (hk : k = 2 ^ i) (hx0 : 0 ≤ x) (hx : x < k) (hy : 0 ≤ y) (hs : x + y * k < 4294967296) : bits .or .u32 x (y * k) = x + y * k := by
  obtain ⟨X, rfl⟩ := Int.eq_ofNat_of_zero_le hx0
  obtain ⟨Y, rfl⟩ := Int.eq_ofNat_of_zero_le hy
  obtain ⟨K, hK⟩ : ∃ K : Nat, K = 2 ^ i := ⟨_, rfl⟩
  have hk' : k = (K : Int) := by rw [hk, hK]; exact (Int.natCast_pow 2 i).symm
  subst hk'
  have := or_part i K X Y hK (by omega) (Int.ofNat_lt.1 (by rw [Int.natCast_add, Int.natCast_mul]; exact hs))
  rw [Int.natCast_add, Int.natCast_mul] at this
  exact this
theorem wordK1 (l : List Int) (h : 0 ≤ l.getD 0 0 ∧ l.getD 0 0 < 256) : wordK l 1 = l.getD 0 0 := by
  unfold wordK wordK
  generalize l.getD 0 0 = a at *
  have e : a % 4294967296 * 2 ^ (8 * 0) % 4294967296 = a * 1 := by rw [show (2 : Int) ^ (8 * 0) = 1 from rfl]; omega
  rw [e, or_int 0 1 0 a (by decide) (by omega) (by omega) h.1 (by omega)]
  omega
theorem wordK4 (l : List Int) (h : ∀ k, 0 ≤ l.getD k 0 ∧ l.getD k 0 < 256) : wordK l 4 = l.getD 0 0 + l.getD 1 0 * 256 + l.getD 2 0 * 65536 + l.getD 3 0 * 16777216 := by
  have h1 := wordK1 l (h 0)
  have e2 : wordK l 2 = l.getD 0 0 + l.getD 1 0 * 256 := by
    show bits BinOp.or IntKind.u32 (wordK l 1) _ = _
    rw [h1]
    have a := h 0
    have b := h 1
    generalize l.getD 0 0 = x at *
    generalize l.getD 1 0 = y at *
    have e : y % 4294967296 * 2 ^ (8 * 1) % 4294967296 = y * 256 := by rw [show (2 : Int) ^ (8 * 1) = 256 from rfl]; omega
    rw [e, or_int 8 256 x y (by decide) a.1 a.2 b.1 (by omega)]
  have e3 : wordK l 3 = l.getD 0 0 + l.getD 1 0 * 256 + l.getD 2 0 * 65536 := by
    show bits BinOp.or IntKind.u32 (wordK l 2) _ = _
    rw [e2]
    have a := h 0
    have b := h 1
    have c := h 2
    obtain ⟨x, hx⟩ : ∃ x, x = l.getD 0 0 + l.getD 1 0 * 256 := ⟨_, rfl⟩
    rw [← hx]
    generalize l.getD 2 0 = y at *
    have e : y % 4294967296 * 2 ^ (8 * 2) % 4294967296 = y * 65536 := by rw [show (2 : Int) ^ (8 * 2) = 65536 from rfl]; omega
    rw [e, or_int 16 65536 x y (by decide) (by omega) (by omega) c.1 (by omega)]
  show bits BinOp.or IntKind.u32 (wordK l 3) _ = _
  rw [e3]
  have a := h 0
  have b := h 1
  have c := h 2
  have d := h 3
  obtain ⟨x, hx⟩ : ∃ x, x = l.getD 0 0 + l.getD 1 0 * 256 + l.getD 2 0 * 65536 := ⟨_, rfl⟩
  rw [← hx]
  generalize l.getD 3 0 = y at *
  have e : y % 4294967296 * 2 ^ (8 * 3) % 4294967296 = y * 16777216 := by rw [show (2 : Int) ^ (8 * 3) = 16777216 from rfl]; omega
  rw [e, or_int 24 16777216 x y (by decide) (by omega) (by omega) d.1 (by omega)]
/-- One memory is the other. -/
structure MemR (s : St) (d : Ds) : Prop where
  low : s.low = d.low
  gl : s.gl = d.gl
  sk : ∀ a : Int, d.low ≤ a → a < 8388608 → s.sk.getD (a - (8388608 - (s.sk.length : Int))).toNat 0 = d.sk.getD (a - 8126464).toNat 0
section
variable {s : St} {d : Ds}
theorem part_get (l : List Int) (o n k : Nat) (hk : k < n) : (partL l o n).getD k 0 = l.getD (o + k) 0 := by
  unfold partL
  simp only [List.getD]
  rw [List.getElem?_take, if_pos hk, List.getElem?_drop]
theorem load_none {A : Int} {n : Nat} (k : Nat) (hk : k < n) (h : byteD d (A + k) = none) : ∀ (m : Nat) (w : Int), k < m → loadN d A m w = none
  | 0, w, hm => by omega
  | m + 1, w, hm => by
    unfold loadN
    by_cases e : k = m
    · subst e
      rw [h]
    · cases byteD d (A + m) with
      | none => rfl
      | some b => exact load_none k hk h m _ (by omega)
theorem byteD_none {a : Int} (h1 : ¬ (16777216 ≤ a ∧ a < 16777216 + (d.gl.length : Int))) (h2 : ¬ (d.low ≤ a ∧ a < 8388608)) : byteD d a = none := by
  unfold byteD placeD
  rw [if_neg h1, if_neg h2]
theorem byteD_gl {a : Int} (h1 : 16777216 ≤ a ∧ a < 16777216 + (d.gl.length : Int)) : byteD d a = some (d.gl.getD (a - 16777216).toNat 0) := by
  unfold byteD placeD
  rw [if_pos h1]
  rfl
theorem byteD_sk {a : Int} (h2 : d.low ≤ a ∧ a < 8388608) : byteD d a = some (d.sk.getD (a - 8126464).toNat 0) := by
  unfold byteD placeD
  rw [if_neg (by omega), if_pos h2]
  rfl
theorem load_some {A : Int} {n : Nat} (hn : n = 1 ∨ n = 4) {f : Nat → Int} (hf : ∀ k, k < n → byteD d (A + k) = some (f k) ∧ 0 ≤ f k ∧ f k < 256) {l : List Int} (hl : ∀ k, k < n → l.getD k 0 = f k) (hb : ∀ k, 0 ≤ l.getD k 0 ∧ l.getD k 0 < 256) : loadN d A n 0 = some (wordK l n) := by
  rcases hn with rfl | rfl
  · obtain ⟨h0, b0, c0⟩ := hf 0 (by omega)
    rw [wordK1 l (hb 0), hl 0 (by omega)]
    unfold loadN
    rw [h0]
    dsimp only
    unfold loadN
    congr 1
    omega
  · obtain ⟨h0, b0, c0⟩ := hf 0 (by omega)
    obtain ⟨h1, b1, c1⟩ := hf 1 (by omega)
    obtain ⟨h2, b2, c2⟩ := hf 2 (by omega)
    obtain ⟨h3, b3, c3⟩ := hf 3 (by omega)
    rw [wordK4 l hb, hl 0 (by omega), hl 1 (by omega), hl 2 (by omega), hl 3 (by omega)]
    unfold loadN
    rw [h3]
    dsimp only
    unfold loadN
    rw [h2]
    dsimp only
    unfold loadN
    rw [h1]
    dsimp only
    unfold loadN
    rw [h0]
    dsimp only
    unfold loadN
    congr 1
    omega
theorem bytes_get {l : List Int} (h : BytesOk l) (k : Nat) : 0 ≤ l.getD k 0 ∧ l.getD k 0 < 256 := by
  by_cases hk : k < l.length
  · have := h k hk
    simpa [List.getD, hk] using this
  · simp [List.getD, hk]
/-- What is loaded is loaded on both sides. -/
theorem load_eq (hM : MemR s d) (hS : MemOk s) (hk : DmOk d) {A : Int} (hA : 0 ≤ A ∧ A < 4294967296) {n : Nat} (hn : n = 1 ∨ n = 4) :
    (atF s A n = none ∧ loadN d A n 0 = none) ∨ (∃ st o, atF s A n = some (st, o) ∧ loadN d A n 0 = some (wordK (partL (if st then s.sk else s.gl) o n) n)) := by
  have h3 := hS.l3
  have hl := hk.l
  have hpb : ∀ (l : List Int) (o : Nat), BytesOk l → ∀ k, 0 ≤ (partL l o n).getD k 0 ∧ (partL l o n).getD k 0 < 256 := fun l o hl k => by
    by_cases hkn : k < n
    · rw [part_get l o n k hkn]; exact bytes_get hl _
    · have : (partL l o n).getD k 0 = 0 := by
        unfold partL
        simp only [List.getD]
        rw [List.getElem?_take, if_neg hkn]
        rfl
      rw [this]; omega
  unfold atF
  rw [hM.low, hM.gl]
  by_cases g1 : d.low ≤ A ∧ A + n ≤ 8388608
  · rw [if_pos g1]
    refine .inr ⟨true, _, rfl, ?_⟩
    refine load_some hn (f := fun k => d.sk.getD (A + k - 8126464).toNat 0) (fun k hkn => ?_) (fun k hkn => ?_) (hpb _ _ hS.kb)
    · rw [byteD_sk (a := A + k) (by omega)]
      have := hM.sk (A + k) (by omega) (by omega)
      have hb := bytes_get hS.kb (A + k - (8388608 - (s.sk.length : Int))).toNat
      rw [this] at hb
      exact ⟨rfl, hb⟩
    · rw [if_pos rfl, part_get _ _ _ _ hkn, ← hM.sk (A + k) (by omega) (by omega)]
      rw [hM.low] at h3
      congr 1
      omega
  · rw [if_neg g1]
    by_cases g2 : 16777216 ≤ A ∧ A + n ≤ 16777216 + (d.gl.length : Int)
    · rw [if_pos g2]
      refine .inr ⟨false, _, rfl, ?_⟩
      refine load_some hn (f := fun k => d.gl.getD (A + k - 16777216).toNat 0) (fun k hkn => ?_) (fun k hkn => ?_) (by have := hS.gb; rw [hM.gl] at this; exact hpb _ _ this)
      · rw [byteD_gl (a := A + k) (by omega)]
        have := hS.gb
        rw [hM.gl] at this
        exact ⟨rfl, bytes_get this _⟩
      · rw [if_neg (by decide), part_get _ _ _ _ hkn]
        congr 1
        omega
    · rw [if_neg g2]
      refine .inl ⟨rfl, ?_⟩
      have h8 := hk.g
      by_cases c0 : byteD d (A + (0 : Nat)) = none
      · exact load_none (n := n) 0 (by omega) c0 n 0 (by omega)
      · refine load_none (n := n) (n - 1) (by omega) ?_ n 0 (by omega)
        have e0 : A + ((0 : Nat) : Int) = A := by omega
        rw [e0] at c0
        have e1 : A + ((n - 1 : Nat) : Int) = A + n - 1 := by omega
        rw [e1]
        by_cases q1 : 16777216 ≤ A ∧ A < 16777216 + (d.gl.length : Int)
        · exact byteD_none (by omega) (by omega)
        · by_cases q2 : d.low ≤ A ∧ A < 8388608
          · exact byteD_none (by omega) (by omega)
          · exact absurd (byteD_none q1 q2) c0
/-- One byte is laid on both sides. -/
theorem MemR.set_sk (hM : MemR s d) (hS : 8388608 - d.low ≤ (s.sk.length : Int)) (hk : d.sk.length = 262144) (hl : 8126464 ≤ d.low) {a : Int} (ha : d.low ≤ a ∧ a < 8388608) (b : Int) : MemR { s with sk := s.sk.set (a - (8388608 - (s.sk.length : Int))).toNat b } { d with sk := d.sk.set (a - 8126464).toNat b } := by
  refine ⟨hM.low, hM.gl, fun a' h1 h2 => ?_⟩
  have h1 : d.low ≤ a' := h1
  dsimp only
  rw [List.length_set, getD_set, getD_set]
  by_cases e : a' = a
  · subst e
    rw [if_pos ⟨rfl, by omega⟩, if_pos ⟨rfl, by omega⟩]
  · rw [if_neg (by omega), if_neg (by omega)]
    exact hM.sk a' h1 h2
theorem putL_app : ∀ (xs l : List Int) (o : Nat) (b : Int), putL l o (xs ++ [b]) = (putL l o xs).set (o + xs.length) b
  | [], l, o, b => rfl
  | x :: xs, l, o, b => by
    have := putL_app xs (l.set o x) (o + 1) b
    show putL (l.set o x) (o + 1) (xs ++ [b]) = (putL (l.set o x) (o + 1) xs).set (o + (xs.length + 1)) b
    rw [this, show o + 1 + xs.length = o + (xs.length + 1) by omega]
theorem pow_256 (j : Nat) : (2 : Int) ^ (8 * j) = 256 ^ j := by rw [Int.pow_mul]; rfl
theorem lay_put (l : List Int) (o : Nat) (w : Int) (j : Nat) : putL l o (layL w (j + 1)) = (putL l o (layL w j)).set (o + j) (w / 256 ^ j % 256) := by
  rw [layL_succ, putL_app, layL_len, pow_256]
theorem store_sk (hM : MemR s d) (hS : 8388608 - d.low ≤ (s.sk.length : Int)) (hk : DmOk d) {A : Int} {n : Nat} (h1 : d.low ≤ A) (h2 : A + n ≤ 8388608) (w : Int) : ∀ j, j ≤ n → MemR { s with sk := putL s.sk (A - (8388608 - (s.sk.length : Int))).toNat (layL w j) } (storeN d A w j)
  | 0, _ => hM
  | j + 1, hj => by
    have ih := store_sk hM hS hk h1 h2 w j (by omega)
    have hss := store_same d A w j
    have hl := hk.l
    have hp : placeD (storeN d A w j) (A + j) = some (true, (A + j - 8126464).toNat) := by
      rw [hss.place]
      unfold placeD
      rw [if_neg (by omega), if_pos (by omega)]
    have e1 : storeN d A w (j + 1) = { storeN d A w j with sk := (storeN d A w j).sk.set (A + j - 8126464).toNat (w / 256 ^ j % 256) } := by
      show putB (storeN d A w j) (A + j) (w / 256 ^ j % 256) = _
      unfold putB
      rw [hp]
    have hlen : (putL s.sk (A - (8388608 - (s.sk.length : Int))).toNat (layL w j)).length = s.sk.length := putL_length _ _ _
    have := ih.set_sk (a := A + j) (by rw [hss.l]; show _ ≤ ((putL _ _ _).length : Int); rw [hlen]; exact hS) (by rw [hss.k]; exact hk.k) (by rw [hss.l]; exact hl.1) (by rw [hss.l]; omega) (w / 256 ^ j % 256)
    rw [e1, lay_put]
    dsimp only at this
    rw [hlen] at this
    rw [show (A - (8388608 - (s.sk.length : Int))).toNat + j = (A + j - (8388608 - (s.sk.length : Int))).toNat by omega]
    exact this
theorem store_gl (hM : MemR s d) {A : Int} {n : Nat} (h1 : 16777216 ≤ A) (h2 : A + n ≤ 16777216 + (d.gl.length : Int)) (w : Int) : ∀ j, j ≤ n → MemR { s with gl := putL s.gl (A - 16777216).toNat (layL w j) } (storeN d A w j)
  | 0, _ => hM
  | j + 1, hj => by
    have ih := store_gl hM h1 h2 w j (by omega)
    have hss := store_same d A w j
    have hp : placeD (storeN d A w j) (A + j) = some (false, (A + j - 16777216).toNat) := by
      rw [hss.place]
      unfold placeD
      rw [if_pos (by omega)]
    have e1 : storeN d A w (j + 1) = { storeN d A w j with gl := (storeN d A w j).gl.set (A + j - 16777216).toNat (w / 256 ^ j % 256) } := by
      show putB (storeN d A w j) (A + j) (w / 256 ^ j % 256) = _
      unfold putB
      rw [hp]
    rw [e1, lay_put]
    refine ⟨ih.low, ?_, ih.sk⟩
    have hg := ih.gl
    dsimp only at hg ⊢
    rw [hg, show (A - 16777216).toNat + j = (A + j - 16777216).toNat by omega]
theorem place_some (d : Ds) (a : Int) : (placeD d a).isSome = (byteD d a).isSome := by
  unfold byteD
  cases placeD d a <;> rfl
/-- What is stored is stored on both sides. -/
theorem store_eq (hM : MemR s d) (hS : MemOk s) (hk : DmOk d) {A : Int} (hA : 0 ≤ A ∧ A < 4294967296) {n : Nat} (hn : n = 1 ∨ n = 4) (w : Int) :
    (atF s A n = none ∧ stOkD d A n = false) ∨ (∃ st o, atF s A n = some (st, o) ∧ stOkD d A n = true ∧ MemR (if st then { s with sk := putL s.sk o (layL w n) } else { s with gl := putL s.gl o (layL w n) }) (storeN d A w n)) := by
  have h3 := hS.l3
  have hl := hk.l
  rw [hM.low] at h3
  have hno : ∀ k, k < n → byteD d (A + (k : Nat)) = none → stOkD d A n = false := fun k hk hb => by
    unfold stOkD
    rw [List.all_eq_false]
    exact ⟨k, List.mem_range.2 hk, by rw [place_some, hb]; simp⟩
  have hyes : (∀ k, k < n → (byteD d (A + (k : Nat))).isSome = true) → stOkD d A n = true := fun h => by
    unfold stOkD
    rw [List.all_eq_true]
    exact fun k hk => by rw [place_some]; exact h k (List.mem_range.1 hk)
  have eA : atF s A n = if d.low ≤ A ∧ A + n ≤ 8388608 then some (true, (A - (8388608 - (s.sk.length : Int))).toNat) else if 16777216 ≤ A ∧ A + n ≤ 16777216 + (d.gl.length : Int) then some (false, (A - 16777216).toNat) else none := by unfold atF; rw [hM.low, hM.gl]
  rw [eA]
  clear eA
  by_cases g1 : d.low ≤ A ∧ A + n ≤ 8388608
  · rw [if_pos g1]
    refine .inr ⟨true, _, rfl, hyes (fun k hk => by rw [byteD_sk (by omega)]; rfl), ?_⟩
    rw [if_pos rfl]
    exact store_sk hM h3 hk g1.1 g1.2 w n (Nat.le_refl _)
  · rw [if_neg g1]
    by_cases g2 : 16777216 ≤ A ∧ A + n ≤ 16777216 + (d.gl.length : Int)
    · rw [if_pos g2]
      refine .inr ⟨false, _, rfl, hyes (fun k hk => by rw [byteD_gl (by omega)]; rfl), ?_⟩
      rw [if_neg (by decide)]
      exact store_gl hM g2.1 g2.2 w n (Nat.le_refl _)
    · rw [if_neg g2]
      refine .inl ⟨rfl, ?_⟩
      have h8 := hk.g
      by_cases c0 : byteD d (A + (0 : Nat)) = none
      · exact hno 0 (by omega) c0
      · refine hno (n - 1) (by omega) ?_
        have e0 : A + ((0 : Nat) : Int) = A := by omega
        rw [e0] at c0
        have e1 : A + ((n - 1 : Nat) : Int) = A + n - 1 := by omega
        rw [e1]
        by_cases q1 : 16777216 ≤ A ∧ A < 16777216 + (d.gl.length : Int)
        · exact byteD_none (by omega) (by omega)
        · by_cases q2 : d.low ≤ A ∧ A < 8388608
          · exact byteD_none (by omega) (by omega)
          · exact absurd (byteD_none q1 q2) c0
theorem putL_rep : ∀ (k o : Nat) (l : List Int) (x : Nat), (putL l o (List.replicate k 0)).getD x 0 = if o ≤ x ∧ x < o + k then 0 else l.getD x 0
  | 0, o, l, x => by rw [if_neg (by omega)]; rfl
  | k + 1, o, l, x => by
    show (putL (l.set o 0) (o + 1) (List.replicate k 0)).getD x 0 = _
    rw [putL_rep k (o + 1), getD_set]
    by_cases h1 : o + 1 ≤ x ∧ x < o + 1 + k
    · rw [if_pos h1, if_pos (by omega)]
    · rw [if_neg h1]
      by_cases h2 : o = x
      · subst h2
        rw [if_pos (show o ≤ o ∧ o < o + (k + 1) by omega)]
        by_cases h3 : o < l.length
        · rw [if_pos ⟨rfl, h3⟩]
        · rw [if_neg (fun q => h3 q.2)]
          simp [List.getD, h3]
      · rw [if_neg (fun q => h2 q.1), if_neg (by omega)]
/-- A call's slots are made on both sides. -/
theorem push_eq (hM : MemR s d) (hS : MemOk s) (hk : DmOk d) {n : Nat} (hn : n ≤ 65536) (hp : 8126464 ≤ d.low - n) : MemR (pushG s n) (begD d n) := by
  have h3 := hS.l3
  have h2 := hS.l2
  have hl := hk.l
  have hkk := hk.k
  rw [hM.low] at h3
  obtain ⟨r1, r2, r3⟩ := reachF_len { s with low := s.low - n } (8388608 - (s.low - n)).toNat h2
  have hcases : (reachF { s with low := s.low - n } (8388608 - (s.low - n)).toNat).sk = List.replicate ((reachF { s with low := s.low - n } (8388608 - (s.low - n)).toNat).sk.length - s.sk.length) 0 ++ s.sk := by
    unfold reachF
    split
    · simp
    · simp
  have hgl : (reachF { s with low := s.low - n } (8388608 - (s.low - n)).toNat).gl = s.gl := by unfold reachF; split <;> rfl
  have hlow : (reachF { s with low := s.low - n } (8388608 - (s.low - n)).toNat).low = s.low - n := by unfold reachF; split <;> rfl
  have r1 : s.sk.length ≤ (reachF { s with low := s.low - n } (8388608 - (s.low - n)).toNat).sk.length := r1
  unfold pushG begD
  dsimp only
  generalize reachF { s with low := s.low - n } (8388608 - (s.low - n)).toNat = s2 at *
  rw [hM.low] at *
  refine ⟨hlow, hgl.trans hM.gl, fun a a1 a2 => ?_⟩
  have a1 : d.low - (n : Int) ≤ a := a1
  dsimp only
  rw [putL_length, putL_rep, putL_rep]
  have hN : 8388608 - (d.low - (n : Int)) ≤ (s2.sk.length : Int) := by omega
  by_cases g : a < d.low
  · rw [if_pos (by omega), if_pos (by omega)]
  · rw [if_neg (by omega), if_neg (by omega)]
    rw [← hM.sk a (by omega) a2, hcases]
    simp only [List.getD]
    rw [List.getElem?_append_right (by simp; omega)]
    congr 2
    simp
    omega
end
end Go.Proofs.Ytiehlkhpblldaaa
namespace Go.Proofs.Ytiehlkhpblldaaa
open Go.RowKit Go.Maps
structure RelM (s : St) (d : Ds) : Prop where
  fuel : s.fuel = d.fuel
  out : s.out = d.out
  used : s.used = d.used
  times : s.times = d.count
  calls : (s.calls.length : Int) = d.calls
  mem : MemR s d
  code : s.code = 0
  trap : s.trap = 0
  kind : s.kind = 0
  own : OwnLe s
/-- The innermost call, and what the document has of it. -/
structure RelT (C : Cst) (B : Bs) (s : St) (c : Cl) (l : List Int) (d : Ds) : Prop where
  m : RelM s d
  core : Core C s
  last : s.calls = B.calls ++ [c]
  hd : c.hd = B.hid.length
  no : B.no < c.no ∧ c.no ≤ s.begun
  inv : InvB B s
  view : ∀ i, i < l.length → getR (regsOf s c.fn) i c.no = l.getD i 0
  len : (l.length : Int) = (fnOf C c.fn).regs
  sl : c.sl = d.low % 4294967296
section
variable {C : Cst} {B : Bs} {s s' : St} {c c' : Cl} {l : List Int} {d d' : Ds}
theorem RelT.mem (h : RelT C B s c l d) : c ∈ s.calls := by rw [h.last]; simp
theorem RelT.top (h : RelT C B s c l d) : s.calls.getLast? = some c := by rw [h.last]; simp
theorem RelT.fn (h : RelT C B s c l d) : c.fn < C.p.funcs.length := (h.core.cs c h.mem).1
theorem RelT.bank (h : RelT C B s c l d) : s.banks[c.fn]? = some (some (regsOf s c.fn)) ∧ (regsOf s c.fn).length = l.length ∧ RegsOk (regsOf s c.fn) := by
  obtain ⟨lr, hb⟩ := (h.core.cs c h.mem).2.1
  have hr := h.core.bk _ _ hb
  rw [regs_bank hb]
  exact ⟨hb, by have := h.len; omega, hr.2⟩
/-- Only numbers turn, on both sides alike. -/
theorem RelM.same (h : RelM s d) (e : (s'.banks, s'.hidden, s'.low, s'.sk, s'.gl, s'.begun, s'.code, s'.trap, s'.kind) = (s.banks, s.hidden, s.low, s.sk, s.gl, s.begun, s.code, s.trap, s.kind)) (e2 : (d'.low, d'.gl, d'.sk) = (d.low, d.gl, d.sk)) (hf : s'.fuel = d'.fuel) (ho : s'.out = d'.out) (hu : s'.used = d'.used) (ht : s'.times = d'.count) (hc : (s'.calls.length : Int) = d'.calls) : RelM s' d' := by
  simp only [Prod.mk.injEq] at e e2
  obtain ⟨a1, a2, a3, a4, a5, a6, a7, a8, a9⟩ := e
  obtain ⟨b1, b2, b3⟩ := e2
  have hcur : ∀ fn i, cur s' fn i = cur s fn i := fun fn i => by unfold cur regsOf; rw [a1]
  exact ⟨hf, ho, hu, ht, hc, ⟨by rw [a3, b1]; exact h.mem.low, by rw [a5, b2]; exact h.mem.gl, by rw [b1, b3, a4]; exact h.mem.sk⟩, by rw [a7]; exact h.code, by rw [a8]; exact h.trap, by rw [a9]; exact h.kind, ⟨fun fn i => by rw [hcur, a6]; exact h.own.c fn i, fun x hx => by rw [a6]; rw [a2] at hx; exact h.own.h x hx⟩⟩
theorem InvB.same (h : InvB B s) (e : (s'.banks, s'.hidden) = (s.banks, s.hidden)) : InvB B s' := by
  simp only [Prod.mk.injEq] at e
  obtain ⟨a1, a2⟩ := e
  have hcur : ∀ fn i, cur s' fn i = cur s fn i := fun fn i => by unfold cur regsOf; rw [a1]
  obtain ⟨hs, h1, h2, h3⟩ := h.und
  exact ⟨hs, by rw [a2]; exact h1, fun fn i => by rw [hcur]; exact h2 fn i, fun fn i => by rw [hcur]; exact h3 fn i⟩
theorem RelT.same (h : RelT C B s c l d) (e : (s'.banks, s'.hidden, s'.low, s'.sk, s'.gl, s'.begun, s'.code, s'.trap, s'.kind, s'.calls) = (s.banks, s.hidden, s.low, s.sk, s.gl, s.begun, s.code, s.trap, s.kind, s.calls)) (e2 : (d'.low, d'.gl, d'.sk, d'.calls) = (d.low, d.gl, d.sk, d.calls)) (hf : s'.fuel = d'.fuel) (ho : s'.out = d'.out) (hu : s'.used = d'.used) (ht : s'.times = d'.count) : RelT C B s' c l d' := by
  simp only [Prod.mk.injEq] at e e2
  obtain ⟨a1, a2, a3, a4, a5, a6, a7, a8, a9, a10⟩ := e
  obtain ⟨b1, b2, b3, b4⟩ := e2
  have hr : regsOf s' c.fn = regsOf s c.fn := by unfold regsOf; rw [a1]
  exact ⟨h.m.same (by rw [a1, a2, a3, a4, a5, a6, a7, a8, a9]) (by rw [b1, b2, b3]) hf ho hu ht (by rw [a10, b4]; exact h.m.calls), h.core.congr (by rw [a1, a2, a3, a4, a5, a10]), by rw [a10]; exact h.last, h.hd, by rw [a6]; exact h.no, h.inv.same (by rw [a1, a2]), by rw [hr]; exact h.view, h.len, by rw [b1]; exact h.sl⟩
/-- The innermost call stands elsewhere. -/
theorem RelT.move (h : RelT C B s c l d) (e : (c'.no, c'.fn, c'.sl, c'.hd) = (c.no, c.fn, c.sl, c.hd)) : RelT C B (topS s c') c' l d := by
  simp only [Prod.mk.injEq] at e
  obtain ⟨e1, e2, e3, e4⟩ := e
  have ec : (topS s c').calls = B.calls ++ [c'] := by
    unfold topS
    dsimp only
    rw [h.last]
    simp
  have hm := h.m
  refine ⟨⟨hm.fuel, hm.out, hm.used, hm.times, ?_, ⟨hm.mem.low, hm.mem.gl, hm.mem.sk⟩, hm.code, hm.trap, hm.kind, ⟨hm.own.c, hm.own.h⟩⟩, h.core.top_ h.top e2 e4, ec, by rw [e4]; exact h.hd, by rw [e1]; exact h.no, h.inv.same rfl, ?_, by rw [e2]; exact h.len, by rw [e3]; exact h.sl⟩
  · rw [ec]
    have := hm.calls
    rw [h.last] at this
    simpa using this
  · rw [e1, e2]
    exact h.view
/-- A register is set on both sides. -/
theorem RelT.set (h : RelT C B s c l d) {i : Nat} (hi : i < l.length) {v : Int} (hv : 0 ≤ v ∧ v < 4294967296) : RelT C B (setS s c (regsOf s c.fn) i v) c (l.set i v) d ∧ regsOf (setS s c (regsOf s c.fn) i v) c.fn = (regsOf s c.fn).set i ⟨v, c.no⟩ := by
  obtain ⟨hb, hlen, hok⟩ := h.bank
  have hi' : i < (regsOf s c.fn).length := by omega
  have hm := h.m
  have hreg := regs_bank (setS_bank (i := i) hb v)
  refine ⟨⟨⟨hm.fuel, hm.out, hm.used, hm.times, hm.calls, ⟨hm.mem.low, hm.mem.gl, hm.mem.sk⟩, hm.code, hm.trap, hm.kind, own_set hm.own hb hi' h.no.2 v⟩, h.core.set_ hb hi' hv, h.last, h.hd, h.no, inv_set h.inv hb hi' h.no.1 v, fun j hj => ?_, by rw [List.length_set]; exact h.len, h.sl⟩, hreg⟩
  rw [List.length_set] at hj
  rw [hreg, getD_set]
  by_cases e : i = j
  · subst e
    rw [if_pos ⟨rfl, hi⟩]
    unfold getR
    simp [List.getD, hi']
  · rw [if_neg (fun q => e q.1)]
    have e2 : ((regsOf s c.fn).set i ⟨v, c.no⟩).getD j ⟨0, 0⟩ = (regsOf s c.fn).getD j ⟨0, 0⟩ := by
      simp only [List.getD]
      rw [List.getElem?_set_ne e]
    have e3 : getR ((regsOf s c.fn).set i ⟨v, c.no⟩) j c.no = getR (regsOf s c.fn) j c.no := by
      unfold getR
      rw [e2]
    rw [e3]
    exact h.view j hj
/-- Registers are set, one behind the other. -/
theorem RelT.sets : ∀ (q : List (Nat × Int)) {s : St} {l : List Int}, RelT C B s c l d → (∀ y ∈ q, y.1 < l.length ∧ 0 ≤ y.2 ∧ y.2 < 4294967296) → RelT C B (setsF c s (regsOf s c.fn) q).1 c (setsL l q) d
  | [], s, l, h, _ => h
  | y :: q, s, l, h, hq => by
    obtain ⟨h1, h2⟩ := h.set (hq y (by simp)).1 (hq y (by simp)).2
    have := RelT.sets q h1 (fun z hz => by rw [List.length_set]; exact hq z (by simp [hz]))
    rw [h2] at this
    exact this
theorem pos_is {p : List Int} (hp : SortedL p) {k : Nat} (hk : k < p.length) (f : Int) : p[k] = f ↔ fndF p f = true ∧ k = posF p f := by
  constructor
  · intro e
    have hpos : k = posF p f := posF_is p f k (by omega) (fun j hj hjk => by have := hp j k hj hk hjk; omega) (fun _ => by omega)
    refine ⟨?_, hpos⟩
    unfold fndF
    rw [← hpos, List.getElem?_eq_getElem hk, e]
    simp
  · rintro ⟨e1, e2⟩
    unfold fndF at e1
    rw [← e2, List.getElem?_eq_getElem hk] at e1
    simpa using e1
theorem phiK_is (l : List Int) (f : Int) (I : In) (hp : SortedL I.pred) : ∀ n, n ≤ I.pred.length → phiK l f I n = if fndF I.pred f = true ∧ posF I.pred f < n then l.getD (I.args.getD (posF I.pred f) 0).toNat 0 else 0
  | 0, _ => by rw [if_neg (by omega)]; rfl
  | n + 1, hn => by
    rw [phiK_succ, phiK_is l f I hp n (by omega)]
    have hpi := pos_is hp (show n < I.pred.length by omega) f
    have e : I.pred.getD n 0 = I.pred[n] := by simp [List.getD, show n < I.pred.length by omega]
    rw [e]
    by_cases g : I.pred[n] = f
    · obtain ⟨g1, g2⟩ := hpi.1 g
      rw [if_pos g, if_pos ⟨g1, by omega⟩, ← g2]
    · rw [if_neg g]
      have g2 : ¬ (fndF I.pred f = true ∧ n = posF I.pred f) := fun q => g (hpi.2 q)
      by_cases g3 : fndF I.pred f = true ∧ posF I.pred f < n
      · rw [if_pos g3, if_pos ⟨g3.1, by omega⟩]
      · rw [if_neg g3, if_neg (fun q => g3 ⟨q.1, by
          have h1 := q.2
          have : posF I.pred f ≠ n := fun e => g2 ⟨q.1, e.symm⟩
          omega⟩)]
theorem fnd_len {p : List Int} {f : Int} (h : fndF p f = true) : posF p f < p.length := by
  unfold fndF at h
  simp only [decide_eq_true_eq] at h
  exact (List.getElem?_eq_some_iff.1 h).1
/-- How a run goes on. -/
structure Outs (S : St) (d : Ds) : Prop where
  out : S.out = d.out
  used : S.used = d.used
  times : S.times = d.count
  code : S.code = 0
def Out (C : Cst) (B : Bs) (s : St) (c : Cl) (q : Int × Ds) : Prop := ∃ k,
  (q.2.over = true ∧ (runN C k s).kind = 3 ∧ (runN C k s).trap = 0 ∧ Outs (runN C k s) q.2) ∨
  (q.2.over = false ∧ q.2.trap ≠ 0 ∧ (runN C k s).kind = 2 ∧ (runN C k s).trap = q.2.trap ∧ Outs (runN C k s) q.2) ∨
  (q.2.over = false ∧ q.2.trap = 0 ∧ ∃ s0 c0 l0, runN C k s = levF C s0 c0 q.1 ∧ RelT C B s0 c0 l0 q.2 ∧ c0.fn = c.fn)
theorem runN_add (C : Cst) : ∀ (j k : Nat) (s : St), runN C (j + k) s = runN C k (runN C j s)
  | 0, k, s => by rw [Nat.zero_add]; rfl
  | j + 1, k, s => by
    rw [show j + 1 + k = (j + k) + 1 by omega]
    by_cases h : s.kind = 0
    · show (if s.kind = 0 then runN C (j + k) (stepF C s) else s) = runN C k (if s.kind = 0 then runN C j (stepF C s) else s)
      rw [if_pos h, if_pos h]
      exact runN_add C j k _
    · rw [runN_end C h, runN_end C h, runN_end C h]
theorem Out.runs {q : Int × Ds} (j : Nat) (h : Out C B (runN C j s) c' q) (hf : c'.fn = c.fn) : Out C B s c q := by
  obtain ⟨k, h⟩ := h
  refine ⟨j + k, ?_⟩
  rw [runN_add]
  rcases h with h | h | ⟨h1, h2, s0, c0, l0, h3, h4, h5⟩
  · exact .inl h
  · exact .inr (.inl h)
  · exact .inr (.inr ⟨h1, h2, s0, c0, l0, h3, h4, h5.trans hf⟩)
theorem step1 (h : s.kind = 0) : runN C 1 s = stepF C s := by
  show (if s.kind = 0 then runN C 0 (stepF C s) else s) = _
  rw [if_pos h]
  rfl
/-- A block is come to, on both sides. -/
theorem RelT.arr (P : PgOk C.p) (h : RelT C B s c l d) (hw : WordsOk l) {bk : Nat} (hbk : bk < (fnOf C c.fn).blocks.length) (f : Int) :
    (phisOk d (phN (blOf C c.fn bk).code) = true → RelT C B (arrF s c (regsOf s c.fn) (blOf C c.fn bk).code bk f).1 (arrS s c bk (blOf C c.fn bk).code) (phisL d l f (blOf C c.fn bk).code) (phisD d (phN (blOf C c.fn bk).code))) ∧
    (phisOk d (phN (blOf C c.fn bk).code) = false → (arrF s c (regsOf s c.fn) (blOf C c.fn bk).code bk f).1.kind = 3 ∧ (arrF s c (regsOf s c.fn) (blOf C c.fn bk).code bk f).1.trap = 0 ∧ Outs (arrF s c (regsOf s c.fn) (blOf C c.fn bk).code bk f).1 d) := by
  have hmv := h.move (c' := arrS s c bk (blOf C c.fn bk).code) rfl
  have hm := h.m
  obtain ⟨hb, hlen, hok⟩ := h.bank
  rw [arrF_is]
  by_cases h0 : phN (blOf C c.fn bk).code = 0
  · rw [if_pos h0]
    have hp : phisOk d (phN (blOf C c.fn bk).code) = true := decide_eq_true (.inl h0)
    refine ⟨fun _ => ?_, fun e => by rw [hp] at e; cases e⟩
    unfold phisL phisD
    rw [hp, if_pos rfl, if_pos rfl]
    have e1 : phiP l f (blOf C c.fn bk).code = [] := by unfold phiP; rw [h0]; rfl
    rw [e1, h0]
    exact hmv.same rfl rfl (by show s.fuel = d.fuel - ((0 : Nat) : Int); rw [hm.fuel]; simp) hm.out hm.used hm.times
  · rw [if_neg h0]
    by_cases h1 : s.fuel < phN (blOf C c.fn bk).code
    · rw [if_pos h1]
      have hp : phisOk d (phN (blOf C c.fn bk).code) = false := decide_eq_false (by rw [← hm.fuel]; omega)
      exact ⟨(fun e => by rw [hp] at e; cases e), fun _ => ⟨rfl, hm.trap, ⟨hm.out, hm.used, hm.times, hm.code⟩⟩⟩
    · rw [if_neg h1]
      have hp : phisOk d (phN (blOf C c.fn bk).code) = true := decide_eq_true (.inr (by rw [← hm.fuel]; omega))
      refine ⟨fun _ => ?_, fun e => by rw [hp] at e; cases e⟩
      have hfit : ∀ i, i < phN (blOf C c.fn bk).code → PhiD l.length ((blOf C c.fn bk).code.getD i in0) ∧ ((blOf C c.fn bk).code.getD i in0).pred = predOf C c.fn bk := fun i hi => by
        have hle := phN_le (blOf C c.fn bk).code
        have hk : i < (blOf C c.fn bk).code.length := by omega
        have e : (blOf C c.fn bk).code.getD i in0 = (blOf C c.fn bk).code[i] := by simp [List.getD, hk]
        have hf := fit_all P h.fn hbk hk
        have hop := phN_yes _ i hk hi
        rw [← e] at hop
        unfold FitB shF at hf
        rw [hop] at hf
        refine ⟨by rw [e]; exact phi_fit P h.fn hbk h.len i hk hi, ?_⟩
        have hf : FitR (fnOf C c.fn).regs ⟨2, ((predOf C c.fn bk).length : Nat), 0, 0, false, false, predOf C c.fn bk⟩ ((blOf C c.fn bk).code.getD i in0) := hf
        exact hf.pred
      have hpp : phP (regsOf s c.fn) c.no (blOf C c.fn bk).code f = phiP l f (blOf C c.fn bk).code := by
        unfold phP phiP
        refine List.map_congr_left (fun i hi => ?_)
        have hi' := List.mem_range.1 hi
        obtain ⟨hd, hpr⟩ := hfit i hi'
        have hpr0 := (hfit 0 (by omega)).2
        have e : (chF (regsOf s c.fn) c.no (blOf C c.fn bk).code f (phN (blOf C c.fn bk).code)).getD i 0 = if fndF ((blOf C c.fn bk).code.getD 0 in0).pred f then getR (regsOf s c.fn) (((blOf C c.fn bk).code.getD i in0).args.getD (posF ((blOf C c.fn bk).code.getD 0 in0).pred f) 0).toNat c.no else 0 := by
          unfold chF
          simp [hi']
        rw [e, hpr0]
        have hsort : SortedL (predOf C c.fn bk) := preds_sorted _ _
        have hv : phiV l f ((blOf C c.fn bk).code.getD i in0) = if fndF (predOf C c.fn bk) f = true ∧ posF (predOf C c.fn bk) f < (predOf C c.fn bk).length then l.getD (((blOf C c.fn bk).code.getD i in0).args.getD (posF (predOf C c.fn bk) f) 0).toNat 0 else 0 := by
          unfold phiV
          rw [phiK_is l f _ (by rw [hpr]; exact hsort) _ (Nat.le_refl _), hpr]
        rw [hv]
        by_cases g : fndF (predOf C c.fn bk) f = true
        · have hlt := fnd_len g
          rw [if_pos g, if_pos ⟨g, hlt⟩]
          have ha := hd.a (posF (predOf C c.fn bk) f) (by rw [hd.l, hpr]; exact hlt)
          rw [h.view _ (by omega)]
        · rw [if_neg g, if_neg (fun q => g q.1)]
      unfold phisL phisD
      rw [hp, if_pos rfl, if_pos rfl, hpp]
      have hs1 : RelT C B { topS s (arrS s c bk (blOf C c.fn bk).code) with fuel := s.fuel - phN (blOf C c.fn bk).code, ch := chF (regsOf s c.fn) c.no (blOf C c.fn bk).code f (phN (blOf C c.fn bk).code) } (arrS s c bk (blOf C c.fn bk).code) l { d with fuel := d.fuel - phN (blOf C c.fn bk).code } := hmv.same rfl rfl (by show s.fuel - _ = d.fuel - _; rw [hm.fuel]) hm.out hm.used hm.times
      refine RelT.sets (phiP l f (blOf C c.fn bk).code) hs1 (fun y hy => ?_)
      obtain ⟨i, hi, rfl⟩ := List.mem_map.1 hy
      have hi' := List.mem_range.1 hi
      obtain ⟨hd, _⟩ := hfit i hi'
      have := hd.d
      exact ⟨by show ((blOf C c.fn bk).code.getD i in0).dst.toNat < l.length; omega, phiK_ok hw f _ _⟩
end
end Go.Proofs.Ytiehlkhpblldaaa
