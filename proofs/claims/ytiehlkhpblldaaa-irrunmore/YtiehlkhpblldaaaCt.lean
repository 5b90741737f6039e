/- Count: a run from its beginning to its end. -/
import Derived.Test.YtiehlkhpblldaaaRz
import Derived.Test.YtiehlkhpblldaaaLd
import Derived.Laws.BytesArg
namespace Go.Proofs.Ytiehlkhpblldaaa
open Go.RowKit Go.Maps
set_option linter.unusedVariables false
set_option linter.unusedSimpArgs false

def cstOf (p : Pg) (input : ByteArray) (deep sf sa : Int) (sv : Value) (sl : List Int) : Cst := ⟨p, input, deep, sf, sa, sv, sl, none⟩
/-- The run ahead of its first call. -/
def st0 (p : Pg) (fuel : Int) : St := ⟨List.replicate p.funcs.length none, [], laidF p, [], 8388608, [], 0, [], [], fuel, 0, 0, 0, 0, 0⟩
def tp0 : Tp := ⟨.pointer none, .pointer none, .slice none 0 0⟩
/-- The run, Main called. -/
def st1 (C : Cst) (fuel : Int) : St := entF C (st0 C.p fuel) C.p.main.toNat (fnOf C C.p.main.toNat) []
/-- Steps, till it has ended. -/
def runN (C : Cst) : Nat → St → St
  | 0, s => s
  | n + 1, s => if s.kind = 0 then runN C n (stepF C s) else s
def runF (C : Cst) (fuel : Int) : St := runN C (fuel.toNat + 1) (st1 C fuel)
def endV (S : St) : Value := .agg #[.int .i64 S.kind, .int .i32 S.code, .int .i64 S.trap, .string (strOfNums S.out), .int .i64 S.used]

theorem own_nil (W : World) (B : Nat) (e : TypeId) (z : Nat) : W.ownsRow B e z (.slice none 0 0) 0 [] := ⟨by simp, .inl ⟨rfl, rfl⟩⟩
theorem own_blk {W : World} {B g : Nat} {e : TypeId} {xs : List Value} (hg : B ≤ g) (h : W.heap[g]? = some (.cells xs.toArray e (0, 0))) (hl : xs.length ≤ maxLen) {n : Nat} (hn : xs.length = n) : W.ownsRow B e 1 (.slice (some ⟨g, 0, none⟩) n n) n xs := by
  subst hn
  exact ⟨by simp, .inr ⟨g, xs.length, xs.toArray, rfl, hg, h, Nat.le_refl _, hl, by simp, by simp⟩⟩
theorem banks_nil (n : Nat) : (List.replicate n (none : Option (List Rg))).mapIdx (bankV (fun _ => 0)) = List.replicate n (.slice none 0 0) := by
  apply List.ext_getElem?
  intro i
  rw [List.getElem?_mapIdx]
  by_cases h : i < n
  · simp [h, bankV]
  · simp [h]
section
variable {C : Cst} {W0 W : World}
/-- The run is made. -/
theorem run_begins {p : Pg} {input : ByteArray} {deep sf sa fuel : Int} {sv : Value} {sl : List Int} (hp : Pg.ok W0 p) (hsv : Src icell W0 sv sl) (hsl : sl.length * 8 ≤ big) (hB : Below W0.heap.size W0 W) {bg gg G : Nat} (hbg : W0.heap.size ≤ bg) (hb : W.heap[bg]? = some (.cells (List.replicate p.funcs.length (.slice none 0 0)).toArray 69 (0, 0))) (hgg : W0.heap.size ≤ gg) (hG : p.global = G) (hG2 : G ≤ 65536) (hg : W.heap[gg]? = some (.cells (flat bcel (laidF p)).toArray 5 (0, 0))) (hf : p.funcs.length ≤ 256) :
    RunM (cstOf p input deep sf sa sv sl) W0 W.heap.size (W.alloc (.cells (rcells (cstOf p input deep sf sa sv sl) (st0 p fuel) ⟨.slice (some ⟨bg, 0, none⟩) p.funcs.length p.funcs.length, .slice none 0 0, .slice (some ⟨gg, 0, none⟩) G G, .slice none 0 0, .slice none 0 0, .slice none 0 0, .slice none 0 0, fun _ => 0⟩ tp0) 72)) (st0 p fuel) ⟨.slice (some ⟨bg, 0, none⟩) p.funcs.length p.funcs.length, .slice none 0 0, .slice (some ⟨gg, 0, none⟩) G G, .slice none 0 0, .slice none 0 0, .slice none 0 0, .slice none 0 0, fun _ => 0⟩ tp0 := by
  have hgl : (laidF p).length = G := by unfold laidF; rw [laidN_len, hG]; rfl
  have hlt1 := (Array.getElem?_eq_some_iff.1 hb).1
  have hlt2 := (Array.getElem?_eq_some_iff.1 hg).1
  refine ⟨⟨hB.alloc hB.size _, hp, hsv, hsl, ?_, ?_, ?_, own_nil _ _ _ _, ?_, own_nil _ _ _ _, own_nil _ _ _ _, ?_, ?_, ?_, own_nil _ _ _ _, own_nil _ _ _ _, ?_⟩, hB.size, heap_alloc_new _ _⟩
  · show (W.alloc _).ownsRow _ 69 1 (.slice (some ⟨bg, 0, none⟩) p.funcs.length p.funcs.length) (List.replicate p.funcs.length none).length ((List.replicate p.funcs.length none).mapIdx (bankV (fun _ => 0)))
    rw [banks_nil, List.length_replicate]
    exact own_blk hbg (by rw [Below.heap_alloc _ _ _ hlt1]; exact hb) (by simp; unfold maxLen; omega) (by simp)
  · intro i l h
    have : (List.replicate p.funcs.length (none : Option (List Rg)))[i]? = some (some l) := h
    rw [List.getElem?_replicate] at this
    split at this <;> cases this
  · intro i j l m h
    have : (List.replicate p.funcs.length (none : Option (List Rg)))[i]? = some (some l) := h
    rw [List.getElem?_replicate] at this
    split at this <;> cases this
  · show (W.alloc _).ownsRow _ 5 1 (.slice (some ⟨gg, 0, none⟩) G G) (laidF p).length (flat bcel (laidF p))
    rw [hgl]
    exact own_blk hgg (by rw [Below.heap_alloc _ _ _ hlt2]; exact hg) (by rw [flat_length by1, hgl]; unfold maxLen; omega) (by rw [flat_length by1, hgl]; omega)
  · intro b _ h
    cases h
  · intro b _ h
    cases h
  · intro b h
    cases h
  · intro g cs h
    cases h
/-- What holds ahead of the first call. -/
theorem st0_core (P : PgOk C.p) (fuel : Int) : Core C (st0 C.p fuel) := by
  refine ⟨by simp [st0], ?_, fun e he => (by cases he), fun e he => (by cases he), fun c hc => (by cases hc), fun c hc => (by cases hc), List.Pairwise.nil, ?_, by simp [st0]⟩
  · intro i l h
    have : (List.replicate C.p.funcs.length (none : Option (List Rg)))[i]? = some (some l) := h
    rw [List.getElem?_replicate] at this
    split at this <;> cases this
  · have hg := P.gl
    refine ⟨⟨by show (8126464 : Int) ≤ 8388608; decide, by show (8388608 : Int) ≤ 8388608; decide⟩, Nat.zero_le _, by show (8388608 : Int) - 8388608 ≤ ((0 : Nat) : Int); decide, ?_, fun k hk => by simp [st0] at hk, ?_⟩
    · show (laidF C.p).length ≤ 65536
      unfold laidF
      rw [laidN_len]
      omega
    · show BytesOk (laidF C.p)
      unfold laidF laidN
      generalize C.p.data.take C.p.data.length = ds
      have : ∀ (ds : List Fi) (l : List Int), BytesOk l → BytesOk (ds.foldl (fun l d => putL l d.at_.toNat (bytL d.by_)) l) := by
        intro ds
        induction ds with
        | nil => intro l h; exact h
        | cons d ds ih =>
          intro l h
          refine ih _ (bytes_put _ _ _ h (fun k hk => ?_))
          have e : (bytL d.by_)[k] = ((d.by_.data.toList[k]'(by simpa [bytL] using hk)).toNat : Int) := by simp [bytL]
          rw [e]
          have := (d.by_.data.toList[k]'(by simpa [bytL] using hk)).toNat_lt
          omega
      exact this ds _ (bytes_rep _)
theorem st0_num {fuel : Int} (hf : fuel ≤ 32768) : Num C 12 1 (st0 C.p fuel) := by
  refine ⟨by simp [st0]; omega, by simp [st0]; omega, by simp [st0]; omega, by simp [st0]; omega, by simp [st0]; omega, fun k hk => by simp [st0] at hk, Nat.zero_le _⟩
theorem st1_kpt (P : PgOk C.p) {fuel : Int} (hf : fuel ≤ 32768) : Kpt C (st1 C fuel) :=
  kpt_enter (st0_core P fuel) (st0_num hf) P (by have := P.main; omega) (fun c hc => by cases hc) (by
    show (0 : Int) = _
    exact P.pm.symm) (fun a ha => by cases ha)
end
end Go.Proofs.Ytiehlkhpblldaaa
