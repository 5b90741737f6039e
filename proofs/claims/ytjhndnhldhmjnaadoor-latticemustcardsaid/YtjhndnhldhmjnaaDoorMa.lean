/- The problem in which all edges must agree: its functions. -/
import Derived.Test.YtjhndnhldhmjnaaDoorSlX
import Derived.Test.YtjhndnhldhmjnaaDoorPb
import Derived.Test.YtjhndnhldhmjnaaDoorSa
import Derived.Test.YtjhndnhldhmjnaaDoorAw
namespace Go.Proofs.YtjhndnhldhmjnaaDoor
open Go Go.RowKit Go.Maps
set_option linter.unusedVariables false
set_option linter.unusedSimpArgs false
theorem BoxN.on {w w' : World} {q : Nat} {ns : List Nd} (h : BoxN w q ns) (hb : Below w.heap.size w w') : BoxN w' q ns := by
  obtain ⟨nv, c, hs⟩ := h.v
  exact ⟨nv, keep_cell c hb, hs.on hb⟩
theorem ent15 (args : Array Value) (W : World) : (callFunc 15 args).run Tryd.prog W = .ok (.enter 15 args) W := by simp [go_sem, Tryd.func15]
theorem ent16 (args : Array Value) (W : World) : (callFunc 16 args).run Tryd.prog W = .ok (.enter 16 args) W := by simp [go_sem, Tryd.func16]
theorem ent33 (args : Array Value) (W : World) : (callFunc 33 args).run Tryd.prog W = .ok (.enter 33 args) W := by simp [go_sem, Tryd.func33]
theorem ent34 (args : Array Value) (W : World) : (callFunc 34 args).run Tryd.prog W = .ok (.enter 34 args) W := by simp [go_sem, Tryd.func34]
theorem join15 (w : World) (a b : Wd) : Calls Tryd.prog 15 #[uv a, uv b] w fun e w' => e = .returned (uv (a &&& b)) ∧ w' = w := by
  have h := b_and a b
  unfold uv
  go_enter Tryd.func15, Tryd.ntmps15
  go_wp2
  go_ret
  exact ⟨by rw [BitVec.toNat_and]; rfl, rfl⟩
theorem b_xor (a b : Wd) : bits .xor .u64 (a.toNat : Int) (b.toNat : Int) = ((a ^^^ b).toNat : Int) := by
  have e : bits .xor .u64 (a.toNat : Int) (b.toNat : Int) = IntKind.u64.wrap (((BitVec.ofInt 64 (a.toNat : Int)) ^^^ (BitVec.ofInt 64 (b.toNat : Int))).toNat : Int) := rfl
  rw [e, word_of, word_of, word_back]
theorem b_not (a : Wd) : bits .xor .u64 IntKind.u64.max (a.toNat : Int) = ((~~~a).toNat : Int) := by
  have h := b_xor (BitVec.allOnes 64) a
  rw [BitVec.allOnes_xor] at h
  exact h
theorem start16 {w : World} {q : Nat} {ns : List Nd} (h : BoxN w q ns) (hl : ns.length ≤ 64) {k : Nat} (hk : k < ns.length) : Calls Tryd.prog 16 #[.int .i64 k, .pointer (some ⟨q, 0, none⟩)] w fun e w' => e = .returned (uv (~~~ns[k].start)) ∧ w' = w := by
  obtain ⟨nv, c0, hs⟩ := h.v
  obtain ⟨ao, cap, rfl, hf⟩ := hs.nodes
  obtain ⟨b, off, rfl, hb, hc, hcc⟩ := hf k hk
  obtain ⟨c1, c2, c3⟩ := hcc w (Below.refl _ _)
  clear hf hs h hcc
  generalize ns[k].start = x at *
  unfold uv at *
  go_enter Tryd.func16, Tryd.ntmps16
  go_wp2
  go_ret
  exact ⟨by rw [b_not, BitVec.toNat_not]; rfl, rfl⟩
theorem fns_and {w : World} {q q' : Nat} {ns : List Nd} {l : List (Int × Int)} (hE : edgesF l ns.length = true) (h' : BoxN w q' ns) (h : BoxN w q ns) (hl : ns.length ≤ 64) : FnsOk (andP ns l hE) w (q', q) 16 15 33 34 := by
  refine ⟨ent16, ent15, ent33, ent34, fun W hW k hk => ?_, fun W a b => ?_, fun W a b => ?_, fun W hW k hk x => ?_⟩
  · have hk' : k < ns.length := hk
    refine (start16 (h'.on hW) hl hk').mono ?_
    rintro e w' ⟨rfl, rfl⟩
    exact ⟨by show _ = Ending.returned (uv (~~~(nth ns k).start)); rw [nth_at hk'], 0, rfl⟩
  · refine (join15 W a b).mono ?_
    rintro e w' ⟨rfl, rfl⟩
    exact ⟨rfl, 0, rfl⟩
  · refine (equal33 W a b).mono ?_
    rintro e w' ⟨rfl, rfl⟩
    exact ⟨rfl, 0, rfl⟩
  · have hk' : k < ns.length := hk
    refine (flow34 (h.on hW) hl hk' x).mono ?_
    rintro e w' ⟨rfl, d, rfl⟩
    exact ⟨by show _ = Ending.returned (uv (flowN ns k x)); unfold flowN; rw [nth_at hk'], d, rfl⟩
/-- The problem in which all must agree, solved. -/
theorem solveAnd {w : World} {q q' : Nat} {ev : Value} {ns : List Nd} {l : List (Int × Int)} (hE : edgesF l ns.length = true) (h' : BoxN w q' ns) (h : BoxN w q ns) (he : Src ecell w ev l) (hT : TabM w) (hl : ns.length ≤ 64) (l256 : l.length ≤ 256) :
    Calls Tryd.prog 10 #[prbV ns.length ev 18446744073709551615 (.func (.func 16) #[] #[.pointer (some ⟨q', 0, none⟩)]) (.func (.func 15) #[] #[]) (.func (.func 33) #[] #[]) (.func (.func 34) #[] #[.pointer (some ⟨q, 0, none⟩)]), .int .i64 1048576] w fun e w' => AnsR (andP ns l hE) w e w' := by
  have hl' : (andP ns l hE).n ≤ 4096 := by show ns.length ≤ 4096; omega
  refine (solve10 (P := andP ns l hE) (q := (q', q)) (fs := 16) (fj := 15) (fe := 33) (ff := 34) (most := 1048576) he (by omega) hl' hE rfl (fns_and hE h' h hl) hT (by decide) (by show 64 < 4194304; decide)).mono ?_
  rintro e w' (h | ⟨h, h2⟩)
  · exact h
  · exfalso
    have : (1048576 : Int) < (ns.length : Int) * 65 := h2
    omega
end Go.Proofs.YtjhndnhldhmjnaaDoor
