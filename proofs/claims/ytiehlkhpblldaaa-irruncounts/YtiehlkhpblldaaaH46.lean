/- Count and Run, as they are called. -/
import Derived.Test.YtiehlkhpblldaaaH32
import Derived.Test.YtiehlkhpblldaaaH45
set_option linter.unusedVariables false
set_option linter.unusedSimpArgs false
set_option maxRecDepth 20000
set_option maxHeartbeats 8000000
namespace Go.Proofs.Ytiehlkhpblldaaa
open Go.RowKit Go.Maps

/-- How a run ends. -/
structure En where
  kind : Int
  code : Int
  trap : Int
  out : ByteArray
  used : Int
def En.val (e : En) : Value := .agg #[.int .i64 e.kind, .int .i32 e.code, .int .i64 e.trap, .string e.out, .int .i64 e.used]
def enBad : En := ⟨2, 0, 4, ⟨#[]⟩, 0⟩
def enOf (S : St) : En := ⟨S.kind, S.code, S.trap, strOfNums S.out, S.used⟩
/-- What Count tells. -/
def cntN (p : Pg) (input : ByteArray) (fuel deep sf sa : Int) (sv : Value) (sl : List Int) : Int := if pgF p then (runF (cstOf p input deep sf sa sv sl) fuel).times else 0
def cntE (p : Pg) (input : ByteArray) (fuel deep sf sa : Int) (sv : Value) (sl : List Int) : En := if pgF p then enOf (runF (cstOf p input deep sf sa sv sl) fuel) else enBad
theorem count11 {W : World} {p : Pg} (hp : Pg.ok W p) {input : ByteArray} (hin : input.size ≤ big2) {fuel deep sf sa : Int} (hfu : fuel ≤ 32768) {sv : Value} {sl : List Int} (hsv : Src icell W sv sl) (hsl : sl.length * 8 ≤ big) :
    Calls Try.prog 11 #[p.val, .string input, .int .i64 fuel, .int .i64 deep, .int .i64 sa, sv, .int .i64 sf] W fun e w' => e = .returned (.tuple #[.int .i64 (cntN p input fuel deep sf sa sv sl), (cntE p input fuel deep sf sa sv sl).val]) ∧ Below W.heap.size W w' := by
  unfold cntN cntE
  cases h : pgF p with
  | false =>
    rw [if_neg (by decide), if_neg (by decide)]
    exact count11_no hp h
  | true =>
    rw [if_pos rfl, if_pos rfl]
    exact count11_yes hp hin hfu hsv hsl h
/-- What Run tells. -/
def runE (p : Pg) (input : ByteArray) (fuel deep : Int) : En := cntE p input fuel deep (-1) 0 (.slice none 0 0) []
theorem run9 {W : World} {p : Pg} (hp : Pg.ok W p) {input : ByteArray} (hin : input.size ≤ big2) {fuel deep : Int} (hfu : fuel ≤ 32768) :
    Calls Try.prog 9 #[p.val, .string input, .int .i64 fuel, .int .i64 deep] W fun e w' => e = .returned (runE p input fuel deep).val ∧ Below W.heap.size W w' := by
  have H11 : Hid (∀ w1, Below W.heap.size W w1 → _) := fun w1 h => count11 (hp.on h) hin (deep := deep) (sf := -1) (sa := 0) hfu (sv := .slice none 0 0) (sl := []) (.inl ⟨rfl, _, _, rfl⟩) (by simp)
  unfold runE
  generalize cntE p input fuel deep (-1) 0 (.slice none 0 0) [] = E at *
  generalize cntN p input fuel deep (-1) 0 (.slice none 0 0) [] = N at *
  obtain ⟨k, c, t, o, u⟩ := E
  obtain ⟨fv, funcs, gl, dv, data, main⟩ := p
  unfold Pg.val En.val at *
  dsimp only at *
  clear hp hin hfu
  go_enter Try.func9, Try.ntmps9
  go_wp2_with (go_at_call 11; refine (H11.out _ (below2 _ _ _)).mono ?_; rintro e1 w1 ⟨rfl, hb1⟩; obtain ⟨_, hr1, hB1, hs1⟩ := blk2 hb1; have HR1 := hid' hr1; have HB1 := hid' hB1; obtain ⟨c0, c1, c2, c3, c4, cf⟩ := res5 hr1; have hne : ¬ W.heap.size + 1 = w1.heap.size := (by omega); clear hr1 hB1 hb1)
  obtain ⟨h9, hK⟩ := set5 (w := w1) (u0 := .int .i64 k) (u1 := .int .i32 c) (u2 := .int .i64 t) (u3 := .string o) (u4 := .int .i64 u) HR1.out
  clear c0 c1 c2 c3 c4 cf
  generalize ((((w1.setCell ⟨W.heap.size + 1, 0, none⟩ (.int .i64 k)).setCell ⟨W.heap.size + 1, 1, none⟩ (.int .i32 c)).setCell ⟨W.heap.size + 1, 2, none⟩ (.int .i64 t)).setCell ⟨W.heap.size + 1, 3, none⟩ (.string o)).setCell ⟨W.heap.size + 1, 4, none⟩ (.int .i64 u) = w9 at *
  have hB9 : Below W.heap.size W w9 := HB1.out.trans (hK.below HB1.out.size (fun q e => by omega))
  have h10 : (w9.alloc (.cells #[.int .i64 k, .int .i32 c, .int .i64 t, .string o, .int .i64 u] 31)).heap[W.heap.size + 1]? = some (.cells #[.int .i64 k, .int .i32 c, .int .i64 t, .string o, .int .i64 u] 31 (0, 0)) := by rw [Below.heap_alloc _ _ _ (by have := hK.size; omega)]; exact h9
  have hB10 : Below W.heap.size W (w9.alloc (.cells #[.int .i64 k, .int .i32 c, .int .i64 t, .string o, .int .i64 u] 31)) := hB9.alloc hB9.size _
  generalize w9.alloc (.cells #[.int .i64 k, .int .i32 c, .int .i64 t, .string o, .int .i64 u] 31) = w10 at *
  obtain ⟨d0, d1, d2, d3, d4, df⟩ := res5 h10
  exact bodyPost_ret (v := .agg #[.int .i64 k, .int .i32 c, .int .i64 t, .string o, .int .i64 u]) (by simp [results, Try.results9, go_sem, d0, d1, d2, d3, d4]) rfl ⟨rfl, hB10⟩
/-- The program that awake runs. -/
def awI1 : In := ⟨1, 0, .slice none 0 0, [], 65, 0, 0, .slice none 0 0, []⟩
def awI2 (a : Nat) : In := ⟨11, -1, .slice (some ⟨a, 0, none⟩) 1 1, [0], 0, 0, 0, .slice none 0 0, []⟩
def awB (a c : Nat) : Bl := ⟨.slice (some ⟨c, 0, none⟩) 2 2, [awI1, awI2 a], 3, 0, .slice none 0 0, []⟩
def awF (a c b : Nat) : Fn := ⟨⟨#[]⟩, 0, 1, 0, .slice (some ⟨b, 0, none⟩) 1 1, [awB a c]⟩
def awP (a c b f : Nat) : Pg := ⟨.slice (some ⟨f, 0, none⟩) 1 1, [awF a c b], 0, .slice none 0 0, [], 0⟩
theorem awP_is (a c b f : Nat) : pgF (awP a c b f) = true := by
  unfold pgF
  have h1 : mayF (awP a c b f) = true := rfl
  have h2 : fnF (awP a c b f) (awF a c b) = true := rfl
  rw [h1]
  simp [awP]
  exact h2
theorem awP_run (a c b f : Nat) : runE (awP a c b f) ⟨#[]⟩ 9 1 = ⟨1, 65, 0, ⟨#[65]⟩, 0⟩ := by
  unfold runE cntE
  rw [awP_is, if_pos rfl]
  kernel_rfl
end Go.Proofs.Ytiehlkhpblldaaa

namespace Go.Proofs.Ytiehlkhpblldaaa
open Go.RowKit Go.Maps

theorem src_row {α : Type} {f : α → List Value} {w : World} {b n : Nat} {l : List α} {t : TypeId} (hn : l.length = n) (h : w.heap[b]? = some (.cells (flat f l).toArray t (0, 0))) : Src f w (.slice (some ⟨b, 0, none⟩) n n) l := by
  subst hn
  refine .inr ⟨b, 0, l.length, rfl, (Array.getElem?_eq_some_iff.1 h).1, Nat.le_refl _, fun j u hj => ?_⟩
  rw [Nat.zero_add, cell_of_row w b j _ t (0, 0) h, List.getElem?_toArray]
  exact hj
theorem aw_ok {w : World} {a c b f : Nat} (h1 : w.heap[a]? = some (.cells #[.int .i64 0] 3 (0, 0))) (h2 : w.heap[c]? = some (.cells (flat In.cells [awI1, awI2 a]).toArray 51 (0, 0))) (h3 : w.heap[b]? = some (.cells (flat Bl.cells [awB a c]).toArray 54 (0, 0))) (h4 : w.heap[f]? = some (.cells (flat Fn.cells [awF a c b]).toArray 49 (0, 0))) : Pg.ok w (awP a c b f) := by
  have n0 : Src icell w (.slice none 0 0) [] := .inl ⟨rfl, _, _, rfl⟩
  have i1 : In.ok w awI1 := ⟨n0, by decide, n0, by decide, by decide⟩
  have i2 : In.ok w (awI2 a) := ⟨src_row (l := [0]) rfl h1, by show 1 * 8 ≤ 140737488351232; omega, n0, by show 0 * 8 ≤ 140737488351232; omega, by show (-2147483648 : Int) ≤ 0 ∧ (0 : Int) ≤ 2147483647; omega⟩
  have hB : Bl.ok w (awB a c) := ⟨src_row rfl h2, by show 2 * 88 ≤ 140737488351232; omega, n0, by show 0 * 8 ≤ 140737488351232; omega, fun x hx => by
    have : x = awI1 ∨ x = awI2 a := by simpa [awB] using hx
    rcases this with rfl | rfl
    · exact i1
    · exact i2⟩
  have hF : Fn.ok w (awF a c b) := ⟨src_row rfl h3, by show 1 * 64 ≤ 140737488351232; omega, by show 0 ≤ 140737488351232; omega, fun x hx => by
    have : x = awB a c := by simpa [awF] using hx
    subst this
    exact hB⟩
  exact ⟨src_row rfl h4, by show 1 * 64 ≤ 140737488351232; omega, .inl ⟨rfl, _, _, rfl⟩, by show 0 * 24 ≤ 140737488351232; omega, fun x hx => by
    have : x = awF a c b := by simpa [awP] using hx
    subst this
    exact hF, fun x hx => by cases hx⟩
theorem heap5 (w : World) (a b c d e : Obj) : (((((w.alloc a).alloc b).alloc c).alloc d).alloc e).heap[w.heap.size]? = some a ∧ (((((w.alloc a).alloc b).alloc c).alloc d).alloc e).heap[w.heap.size + 1]? = some b ∧ (((((w.alloc a).alloc b).alloc c).alloc d).alloc e).heap[w.heap.size + 1 + 1]? = some c ∧ (((((w.alloc a).alloc b).alloc c).alloc d).alloc e).heap[w.heap.size + 1 + 1 + 1]? = some d ∧ Below w.heap.size w (((((w.alloc a).alloc b).alloc c).alloc d).alloc e) := by
  have s1 : (w.alloc a).heap.size = w.heap.size + 1 := by simp
  have s2 : ((w.alloc a).alloc b).heap.size = w.heap.size + 1 + 1 := by simp
  have s3 : (((w.alloc a).alloc b).alloc c).heap.size = w.heap.size + 1 + 1 + 1 := by simp
  have s4 : ((((w.alloc a).alloc b).alloc c).alloc d).heap.size = w.heap.size + 1 + 1 + 1 + 1 := by simp
  refine ⟨?_, ?_, ?_, ?_, ?_⟩
  · rw [Below.heap_alloc _ _ _ (by omega), Below.heap_alloc _ _ _ (by omega), Below.heap_alloc _ _ _ (by omega), Below.heap_alloc _ _ _ (by omega)]
    exact heap_alloc_new _ _
  · rw [Below.heap_alloc _ _ _ (by omega), Below.heap_alloc _ _ _ (by omega), Below.heap_alloc _ _ _ (by omega), ← s1]
    exact heap_alloc_new _ _
  · rw [Below.heap_alloc _ _ _ (by omega), Below.heap_alloc _ _ _ (by omega), ← s2]
    exact heap_alloc_new _ _
  · rw [Below.heap_alloc _ _ _ (by omega), ← s3]
    exact heap_alloc_new _ _
  · exact ((below3 w a b c).alloc (by omega) _).alloc (by omega) _
theorem awake8 (W : World) : Calls Try.prog 8 #[] W fun e w' => e = .returned (.bool true) ∧ Below W.heap.size W w' := by
  have hh := heap5 W (.cells #[.int .i64 0] 3) (.cells (flat In.cells [awI1, awI2 W.heap.size]).toArray 51) (.cells (flat Bl.cells [awB W.heap.size (W.heap.size + 1)]).toArray 54) (.cells (flat Fn.cells [awF W.heap.size (W.heap.size + 1) (W.heap.size + 1 + 1)]).toArray 49) (.cells #[.slice (some ⟨W.heap.size + 1 + 1 + 1, 0, none⟩) 1 1, .int .i64 0, .slice none 0 0, .int .i64 0] 25)
  obtain ⟨h1, h2, h3, h4, hb⟩ := hh
  have h9 := run9 (aw_ok h1 h2 h3 h4) (input := ⟨#[]⟩) (by decide) (fuel := 9) (deep := 1) (by decide)
  rw [awP_run] at h9
  have HB := hid' hb
  clear h1 h2 h3 h4 hb
  unfold En.val at h9
  dsimp only at h9
  go_enter Try.func8, Try.ntmps8
  go_wp2_with (go_at_call 9; refine h9.mono ?_; rintro e1 w1 ⟨rfl, hb1⟩)
  go_ret
  exact ⟨rfl, below_up HB.out hb1⟩
end Go.Proofs.Ytiehlkhpblldaaa

namespace Go.Proofs.Ytiehlkhpblldaaa
open Go.RowKit Go.Maps

section
variable {C : Cst} {y : ByteArray} {u : Nat}
theorem runN_kpt (P : PgOk C.p) : ∀ (n : Nat) (s : St), Kpt C s → Kpt C (runN C n s)
  | 0, s, h => h
  | n + 1, s, h => by
    unfold runN
    by_cases hk : s.kind = 0
    · rw [if_pos hk]
      exact runN_kpt P n _ (step_kpt (h.2 hk) P)
    · rw [if_neg hk]
      exact h
end
end Go.Proofs.Ytiehlkhpblldaaa
