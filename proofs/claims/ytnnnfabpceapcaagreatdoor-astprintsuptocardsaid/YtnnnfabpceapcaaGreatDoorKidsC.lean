/- Questions of more than one part; rows of questions. -/
import Derived.Test.YtnnnfabpceapcaaGreatDoorKids2
import Derived.Test.YtnnnfabpceapcaaGreatDoorSameL
namespace Go.Proofs.YtnnnfabpceapcaaGreatDoor
set_option linter.unusedSimpArgs false
open Go.RowKit
set_option linter.unusedVariables false

theorem ans0 (w : World) : ∀ p ∈ ([] : List (Value × Ask)), AskV p.1 p.2 w := fun p h => absurd h (by simp)
theorem ansC {w : World} {a : Value} {F : Ask} {L : List (Value × Ask)} (h : AskV a F w) (r : ∀ p ∈ L, AskV p.1 p.2 w) : ∀ p ∈ ((a, F) :: L), AskV p.1 p.2 w := fun p hp => by
  rcases List.mem_cons.1 hp with rfl | hp
  · exact h
  · exact r p hp
theorem asks_new {w : World} {L : List (Value × Ask)} (h : ∀ p ∈ L, AskV p.1 p.2 w) (hl : L.length ≤ 1000) : Asks (w.alloc (.cells (L.map Prod.fst).toArray 77)) (.slice (some ⟨w.heap.size, 0, none⟩) (L.map Prod.snd).length (L.map Prod.snd).length) (L.map Prod.snd) := by
  refine ⟨by simpa using hl, _, rfl, fun i hi => ?_⟩
  have hi' : i < L.length := by simpa using hi
  refine ⟨w.heap.size, L[i].1, rfl, by simp, ?_, ?_⟩
  · have : (w.alloc (.cells (L.map Prod.fst).toArray 77)).heap[w.heap.size]? = some (.cells (L.map Prod.fst).toArray 77 (0, 0)) := heap_alloc_new w _
    rw [cell_of_row _ _ _ _ _ _ this]
    simp [hi']
  · rw [List.getElem_map]
    exact (h _ (List.getElem_mem hi')).below (below1 _ _)
theorem are_of {w : World} {kv : Value} {n cb : Nat} {ks : List Tr} (hK : Ks cb n w kv ks) : Hid (∀ (W : World) (L : List (Value × Ask)), Below w.heap.size w W → (∀ p ∈ L, AskV p.1 p.2 W) → L.length ≤ 1000 → ∀ b m, b = W.heap.size → m = L.length → Calls Tryz.prog 69 #[kv, .slice (some ⟨b, 0, none⟩) m m] (W.alloc (.cells (L.map Prod.fst).toArray 77)) fun e w' => e = .returned (.bool (areK (L.map Prod.snd) ks)) ∧ Below w.heap.size w w') := by
  intro W L hW hL hl b m hb hm
  subst hb hm
  have := are67 (asks_new hL hl) (hK.below (below_on hW (below1 W (.cells (L.map Prod.fst).toArray 77))))
  rw [List.length_map] at this
  exact this.mono fun e w' h => ⟨h.1, below_on (below_on hW (below1 _ _)) h.2⟩
theorem all_ask {w : World} {kv : Value} {n cb : Nat} {ks : List Tr} (hK : Ks cb n w kv ks) : Hid (∀ (W : World) (a : Value) (F : Ask), Below w.heap.size w W → AskV a F W → Calls Tryz.prog 70 #[kv, a] W fun e w' => e = .returned (.bool (allK F ks)) ∧ Below w.heap.size w w') := by
  intro W a F hW hA
  exact (all68 hA (hK.below hW)).mono fun e w' h => ⟨h.1, below_on hW h.2⟩

/-- One of some questions. -/
def orK (L : List Ask) (x : NdH) (ks : List Tr) : Bool := L.any fun F => F x ks
theorem orK_cons (F : Ask) (L : List Ask) (x : NdH) (ks : List Tr) : orK (F :: L) x ks = (F x ks || orK L x ks) := rfl
theorem orK_nil (x : NdH) (ks : List Tr) : orK [] x ks = false := rfl
theorem enter84 (args : Array Value) (W : World) : (callFunc 100 args).run Tryz.prog W = .ok (.enter 100 args) W := by
  simp [go_sem]
set_option maxHeartbeats 2000000 in
theorem see84 {w : World} {b o cb : Nat} {x : NdH} {kv v : Value} {L : List Ask} {n kb : Nat} {ks : List Tr} (h : NdAt w b o x kv) (hb : b < w.heap.size) (hK : Ks kb n w kv ks) (hc : w.cell? ⟨cb, 0, none⟩ = some v) (hcb : cb < w.heap.size) (hA : Asks w v L) :
    Calls Tryz.prog 100 #[.pointer (some ⟨b, o, none⟩), .pointer (some ⟨cb, 0, none⟩)] w fun e w' => e = .returned (.bool (orK L x ks)) ∧ Below w.heap.size w w' := by
  obtain ⟨hL, aa, rfl, hQ⟩ := hA
  have HQ := hid' hQ
  have HAT := hid' h
  have HK := hid' hK
  clear hQ h hK
  obtain ⟨X, hX⟩ : ∃ X, X = orK L x ks := ⟨_, rfl⟩
  rw [← hX]
  replace hX := hid' hX
  go_enter Tryz.func100, Tryz.ntmps100
  go_wp2
  go_loopw [8] (fun i W => ∃ j : Nat, j ≤ L.length ∧ i = .int .i64 j ∧ Hid (X = orK (L.drop j) x ks) ∧ Hid (Below w.heap.size w W)) (fun i _ => L.length - (intOf i).toNat)
  case atStart => exact ⟨0, Nat.zero_le _, rfl, hX, Below.refl _ _⟩
  case round =>
    obtain ⟨j, hj, rfl, HX, HB⟩ := hrel
    by_cases hlt : j < L.length
    · obtain ⟨ab, a, rfl, hab, hac, hAV⟩ := HQ.out j hlt
      obtain ⟨g, caps, rfl, hg, hC⟩ := hAV
      have hac' := (HB.out.cell (p := ⟨ab, j, none⟩) hab).trans hac
      have hS := hid' (hC wr b o x kv n ks kb HB.out (HAT.out.below HB.out hb) (Nat.lt_of_lt_of_le hb HB.out.size) (HK.out.below HB.out))
      have hd : Hid (X = (L[j] x ks || orK (L.drop (j + 1)) x ks)) := by
        show _ = _
        rw [HX.out, List.drop_eq_getElem_cons hlt, orK_cons]
      have habW := Nat.lt_of_lt_of_le hab HB.out.size
      clear HX hC hac
      cases hF : L[j] x ks with
      | true =>
        rw [hF] at hS hd
        clear hF
        go_wp2_with ((with_reducible refine hS.out.mono ?_); rintro e5 w5 ⟨rfl, hb5⟩; replace hb5 := hid' hb5)
        go_ret
        exact ⟨ret_b hd.out.symm, below_on HB.out hb5.out⟩
      | false =>
        rw [hF] at hS hd
        clear hF
        go_wp2_with ((with_reducible refine hS.out.mono ?_); rintro e5 w5 ⟨rfl, hb5⟩; replace hb5 := hid' hb5)
        exact ⟨⟨j + 1, by omega, by go_num, hd.out, below_on HB.out hb5.out⟩, by simp [intOf]; omega⟩
    · have hd : Hid (X = false) := by
        show _ = _
        rw [HX.out, List.drop_eq_nil_of_le (by omega), orK_nil]
      go_wp2
      go_ret
      exact ⟨ret_b hd.out.symm, HB.out⟩
theorem either69 {w : World} {ao : Option Addr} {m c : Nat} : Calls Tryz.prog 71 #[.slice ao m c] w fun e w' => e = .returned (.func (.func 100) #[] #[.pointer (some ⟨w.heap.size, 0, none⟩)]) ∧ w' = w.alloc (.cells #[.slice ao m c] 95) := by
  have hmf : ∀ (fn : Fn) (first cap : Array Value) (w : World), (Instr.makeFunc fn first cap).run Tryz.prog w = .ok (.func fn first cap) w := fun _ _ _ _ => rfl
  go_enter Tryz.func71, Tryz.ntmps71
  go_wp2
  go_ret
  exact ⟨rfl, rfl⟩
theorem ask84 {w : World} {v : Value} {L : List Ask} (h : Asks w v L) : AskV (.func (.func 100) #[] #[.pointer (some ⟨w.heap.size, 0, none⟩)]) (orK L) (w.alloc (.cells #[v] 95)) :=
  ⟨100, _, rfl, enter84, fun W b o x kv n ks cb hB h1 h2 h3 => see84 h1 h2 h3 (by rw [hB.cell (p := ⟨w.heap.size, 0, none⟩) (by simp)]; simp [go_sem]) (by have := hB.size; simp at this; omega) (h.below (below_on (below1 _ _) hB))⟩
/-- either's answer, its questions laid out by the caller. -/
theorem ask_or {w : World} {L : List (Value × Ask)} (h : ∀ p ∈ L, AskV p.1 p.2 w) (hl : L.length ≤ 1000) (p b m : Nat) (e1 : p = w.heap.size + 1) (e2 : b = w.heap.size) (e3 : m = L.length) :
    AskV (.func (.func 100) #[] #[.pointer (some ⟨p, 0, none⟩)]) (orK (L.map Prod.snd)) ((w.alloc (.cells (L.map Prod.fst).toArray 77)).alloc (.cells #[.slice (some ⟨b, 0, none⟩) m m] 95)) := by
  subst e1 e2 e3
  have := ask84 (asks_new h hl)
  rw [List.length_map] at this
  simpa using this
/-- of's answer, its kinds laid out by the caller. -/
theorem ask_of {w : World} {l : List Int} (hl : l.length ≤ 1000) (p b m : Nat) (e1 : p = w.heap.size + 1) (e2 : b = w.heap.size) (e3 : m = l.length) :
    AskV (.func (.func 98) #[] #[.pointer (some ⟨p, 0, none⟩)]) (ofK l) ((w.alloc (.cells (l.map fun k => Value.int .i64 k).toArray 3)).alloc (.cells #[.slice (some ⟨b, 0, none⟩) m m] 93)) := by
  subst e1 e2 e3
  have hN : Nums (w.alloc (.cells (l.map fun k => Value.int .i64 k).toArray 3)) (.slice (some ⟨w.heap.size, 0, none⟩) l.length l.length) l := by
    refine ⟨w.heap.size, by simp, rfl, by omega, fun i hi => ?_⟩
    have : (w.alloc (.cells (l.map fun k => Value.int .i64 k).toArray 3)).heap[w.heap.size]? = some (.cells (l.map fun k => Value.int .i64 k).toArray 3 (0, 0)) := heap_alloc_new w _
    rw [cell_of_row _ _ _ _ _ _ this]
    simp [hi]
  have := ask82 hN
  simpa using this

/-- bare's closure. -/
def bareV (x : NdH) (ks : List Tr) : Bool := !decide (x.kind = 43) || (ks.isEmpty || (x.flag && decide (ks.length = 1)))
def bareK (x : NdH) (ks : List Tr) : Bool := decide (x.kind = 42) && allK bareV ks
end Go.Proofs.YtnnnfabpceapcaaGreatDoor

namespace Go.Proofs.YtnnnfabpceapcaaGreatDoor
set_option linter.unusedSimpArgs false
open Go.RowKit
set_option linter.unusedVariables false

/-- Has a statement an open end? -/
def openT : Tr → Bool
  | .slice ks [.held x] => if x.kind = 49 ∨ x.kind = 50 ∨ x.kind = 52 then (if x.kind = 49 ∧ ks.length = 2 then true else ((ks.map openT).getLast?).getD false) else false
  | _ => false
theorem openT_node (x : NdH) (ks : List Tr) : openT (Tr.node x ks) = (if x.kind = 49 ∨ x.kind = 50 ∨ x.kind = 52 then (if x.kind = 49 ∧ ks.length = 2 then true else ((ks.map openT).getLast?).getD false) else false) := by unfold Tr.node; rw [openT]
theorem openT_last {x : NdH} {ks : List Tr} (hk : x.kind = 49 ∨ x.kind = 50 ∨ x.kind = 52) (h2 : ¬ (x.kind = 49 ∧ ks.length = 2)) (i : Nat) (hi : i < ks.length) (hl : i + 1 = ks.length) : openT (Tr.node x ks) = openT ks[i] := by
  rw [openT_node, if_pos hk, if_neg h2, List.getLast?_eq_getElem?]
  simp [← hl, hi]
def openK (x : NdH) (ks : List Tr) : Bool := openT (Tr.node x ks)
def closedK (x : NdH) (ks : List Tr) : Bool := isStmt x ks && !openK x ks

/-- A node, and what is asked of it. -/
def NodeIs (w : World) (v : Value) (x : NdH) (ks : List Tr) : Prop := ∃ b o kv n cb, v = .pointer (some ⟨b, o, none⟩) ∧ NdAt w b o x kv ∧ b < w.heap.size ∧ Ks cb n w kv ks
set_option maxHeartbeats 4000000 in
theorem open85 {w : World} {b o : Nat} {x : NdH} {kv : Value} {n cb : Nat} {ks : List Tr} (h : NdAt w b o x kv) (hb : b < w.heap.size) (hK : Ks cb n w kv ks) :
    Calls Tryz.prog 101 #[.pointer (some ⟨b, o, none⟩)] w fun e w' => e = .returned (.bool (openK x ks)) ∧ w' = w := by
  obtain ⟨X, hX⟩ : ∃ X, X = openK x ks := ⟨_, rfl⟩
  obtain ⟨m, hm⟩ := least_any (fun k (v : Value) => ∃ x ks, NodeIs w v x ks ∧ X = openK x ks ∧ szT (Tr.node x ks) = k)
  have HM := hid' hm
  have H0 : Hid (NodeIs w (.pointer (some ⟨b, o, none⟩)) x ks ∧ X = openK x ks) := ⟨⟨b, o, kv, n, cb, rfl, h, hb, hK⟩, hX⟩
  rw [← hX]
  clear hm h hb hK hX
  go_enter Tryz.func101, Tryz.ntmps101
  go_wp2
  go_loop [0] (fun v => ∃ k, ∃ x ks, NodeIs w v x ks ∧ X = openK x ks ∧ szT (Tr.node x ks) = k) (fun v => m v)
  case atStart => exact ⟨_, _, _, H0.out.1, H0.out.2, rfl⟩
  case round =>
    obtain ⟨x, ks, hN, hX, hz⟩ := (HM.out u0 hrel).1
    clear hrel H0
    have HX := hid' hX
    have HZ := hid' hz
    clear hX hz
    obtain ⟨b, o, kv, n, cb, rfl, ⟨c0, c1, c2, c3, c4, c5⟩, hb, hK⟩ := hN
    obtain ⟨hkl, ao, cap, rfl⟩ := hK.shape
    have HK := hid' hK
    clear hK
    by_cases hk : x.kind = 49 ∨ x.kind = 50 ∨ x.kind = 52
    rotate_left
    · have HE : Hid (X = false) := by
        show _ = _
        rw [HX.out]
        unfold openK
        rw [openT_node, if_neg hk]
      have k1 : (x.kind == 49) = false := by simp; omega
      have k2 : (x.kind == 50) = false := by simp; omega
      have k3 : (x.kind == 52) = false := by simp; omega
      generalize x.kind = k at *
      go_wp2
      all_goals go_ret
      all_goals exact ⟨by rw [HE.out]; rfl, rfl⟩
    by_cases hl : ks.length = 0
    · have HE : Hid (X = false) := by
        show _ = _
        rw [HX.out, List.eq_nil_of_length_eq_zero hl]
        unfold openK
        rw [openT_node, if_pos hk, if_neg (by simp)]
        rfl
      rw [hl] at c4
      rcases hk with hk | hk | hk
      all_goals
        rw [hk] at c0
        go_wp2
        go_ret
        exact ⟨by rw [HE.out]; rfl, rfl⟩
    by_cases h2 : x.kind = 49 ∧ ks.length = 2
    · have HE : Hid (X = true) := by
        show _ = _
        rw [HX.out]
        unfold openK
        rw [openT_node, if_pos hk, if_pos h2]
      rw [h2.1] at c0
      rw [h2.2] at c4
      go_wp2
      go_ret
      exact ⟨by rw [HE.out]; rfl, rfl⟩
    obtain ⟨i, hi⟩ : ∃ i, i + 1 = ks.length := ⟨ks.length - 1, by omega⟩
    have hil : i < ks.length := by omega
    obtain ⟨m', b', off, x', kv', ks', hm', rfl, ⟨hbl, _⟩, hke, hat, hK'⟩ := HK.out.kid i hil
    have HN : Hid (NodeIs w (.pointer (some ⟨b', off + i * 6, none⟩)) x' ks' ∧ X = openK x' ks') := by
      refine ⟨⟨b', off + i * 6, kv', m', cb, rfl, hat, hbl, hK'⟩, ?_⟩
      rw [HX.out]
      unfold openK
      rw [openT_last hk h2 i hil hi, hke]
    have HD : Hid (m (.pointer (some ⟨b', off + i * 6, none⟩)) < m (.pointer (some ⟨b, o, none⟩))) := by
      have hd := (HM.out _ ⟨_, _, _, HN.out.1, HN.out.2, rfl⟩).2 _ ⟨_, _, HN.out.1, HN.out.2, rfl⟩
      have h3 := HZ.out
      have h4 := sz_kid ks i hil
      rw [hke] at h4
      rw [szT_node] at h3
      show _ < _
      omega
    have hls : ¬ ((i : Int) = 1 ∧ x.kind = 49) := fun hh => h2 ⟨hh.2, by omega⟩
    rw [← hi] at c4 hkl
    clear hi hil hl h2 HK hat hK' hke
    rcases hk with hk | hk | hk
    · have hi1 : ((i : Int) == 1) = false := by simp; omega
      rw [hk] at c0
      go_wp2
      exact ⟨⟨_, _, _, HN.out.1, HN.out.2, rfl⟩, HD.out⟩
    all_goals
      rw [hk] at c0
      go_wp2
      exact ⟨⟨_, _, _, HN.out.1, HN.out.2, rfl⟩, HD.out⟩
set_option maxHeartbeats 2000000 in
theorem closed70 {w : World} {b o : Nat} {x : NdH} {kv : Value} {n cb : Nat} {ks : List Tr} (h : NdAt w b o x kv) (hb : b < w.heap.size) (hK : Ks cb n w kv ks) :
    Calls Tryz.prog 72 #[.pointer (some ⟨b, o, none⟩)] w fun e w' => e = .returned (.bool (closedK x ks)) ∧ w' = w := by
  have H1 := hid' (stmt37 h hb)
  have H2 := hid' (open85 h hb hK)
  unfold closedK isStmt
  generalize openK x ks = q at *
  cases hs : decide (47 ≤ x.kind ∧ x.kind ≤ 56) with
  | false =>
    rw [hs] at H1
    go_enter Tryz.func72, Tryz.ntmps72
    go_wp2_with (go_at_call 46; (with_reducible refine H1.out.mono ?_); rintro e w1 ⟨rfl, rfl⟩)
    go_ret
    exact ⟨rfl, rfl⟩
  | true =>
    rw [hs] at H1
    go_enter Tryz.func72, Tryz.ntmps72
    go_wp2_with (first
      | (go_at_call 46; (with_reducible refine H1.out.mono ?_); rintro e w1 ⟨rfl, rfl⟩)
      | (go_at_call 101; (with_reducible refine H2.out.mono ?_); rintro e w1 ⟨rfl, rfl⟩))
    go_ret
    exact ⟨rfl, rfl⟩
theorem enter70 (args : Array Value) (W : World) : (callFunc 72 args).run Tryz.prog W = .ok (.enter 72 args) W := by
  simp [go_sem]
theorem enter71 (args : Array Value) (W : World) : (callFunc 73 args).run Tryz.prog W = .ok (.enter 73 args) W := by
  simp [go_sem]
theorem enter86 (args : Array Value) (W : World) : (callFunc 102 args).run Tryz.prog W = .ok (.enter 102 args) W := by
  simp [go_sem]
theorem ask70 (w : World) : AskV (.func (.func 72) #[] #[]) closedK w := ⟨72, #[], rfl, enter70, fun W b o x kv n ks cb _ h hb hK => (closed70 h hb hK).mono fun e w' q => ⟨q.1, by rw [q.2]; exact Below.refl _ _⟩⟩
set_option maxHeartbeats 4000000 in
theorem bare86 {w : World} {b o : Nat} {x : NdH} {kv : Value} {n cb : Nat} {ks : List Tr} (h : NdAt w b o x kv) (hb : b < w.heap.size) (hK : Ks cb n w kv ks) :
    Calls Tryz.prog 102 #[.pointer (some ⟨b, o, none⟩)] w fun e w' => e = .returned (.bool (bareV x ks)) ∧ w' = w := by
  obtain ⟨hkl, ao, cap, rfl⟩ := hK.shape
  obtain ⟨c0, _, _, c3, c4, _⟩ := h
  clear hK
  have he : ks.isEmpty = decide (ks.length = 0) := by cases ks <;> simp
  unfold bareV
  rw [he]
  generalize ks.length = l at *
  generalize x.kind = k at *
  generalize x.flag = f at *
  by_cases hk : k = 43
  · subst hk
    rw [decide_eq_true rfl, Bool.not_true, Bool.false_or]
    by_cases h0 : l = 0
    · subst h0
      go_enter Tryz.func102, Tryz.ntmps102
      go_wp2
      go_ret
      exact ⟨rfl, rfl⟩
    · have h0' : ((l : Int) == 0) = false := by simp; omega
      rw [decide_eq_false h0, Bool.false_or]
      cases f with
      | false =>
        go_enter Tryz.func102, Tryz.ntmps102
        go_wp2
        go_ret
        exact ⟨rfl, rfl⟩
      | true =>
        by_cases h1 : l = 1
        · subst h1
          go_enter Tryz.func102, Tryz.ntmps102
          go_wp2
          go_ret
          exact ⟨rfl, rfl⟩
        · have h1' : ((l : Int) == 1) = false := by simp; omega
          rw [decide_eq_false h1]
          go_enter Tryz.func102, Tryz.ntmps102
          go_wp2
          go_ret
          exact ⟨rfl, rfl⟩
  · have hk' : (k == 43) = false := by simpa using hk
    rw [decide_eq_false hk, Bool.not_false, Bool.true_or]
    go_enter Tryz.func102, Tryz.ntmps102
    go_wp2
    go_ret
    exact ⟨rfl, rfl⟩
theorem ask86 (w : World) : AskV (.func (.func 102) #[] #[]) bareV w := ⟨102, #[], rfl, enter86, fun W b o x kv n ks cb _ h hb hK => (bare86 h hb hK).mono fun e w' q => ⟨q.1, by rw [q.2]; exact Below.refl _ _⟩⟩
set_option maxHeartbeats 2000000 in
theorem bare71 {w : World} {b o : Nat} {x : NdH} {kv : Value} {n cb : Nat} {ks : List Tr} (h : NdAt w b o x kv) (hb : b < w.heap.size) (hK : Ks cb n w kv ks) :
    Calls Tryz.prog 73 #[.pointer (some ⟨b, o, none⟩)] w fun e w' => e = .returned (.bool (bareK x ks)) ∧ Below w.heap.size w w' := by
  have H := hid' (all68 (ask86 w) hK)
  obtain ⟨hkl, ao, cap, rfl⟩ := hK.shape
  obtain ⟨c0, _, _, _, c4, _⟩ := h
  clear hK
  unfold bareK
  generalize allK bareV ks = q at *
  by_cases hk : x.kind = 42
  · rw [decide_eq_true hk, Bool.true_and]
    rw [hk] at c0
    go_enter Tryz.func73, Tryz.ntmps73
    go_wp2_with (go_at_call 70; (with_reducible refine H.out.mono ?_); rintro e w1 ⟨rfl, hb1⟩; replace hb1 := hid' hb1)
    go_ret
    exact ⟨rfl, hb1.out⟩
  · have hk' : (x.kind == 42) = false := by simpa using hk
    rw [decide_eq_false hk, Bool.false_and]
    generalize x.kind = k at *
    go_enter Tryz.func73, Tryz.ntmps73
    go_wp2
    go_ret
    exact ⟨rfl, Below.refl _ _⟩
theorem ask71 (w : World) : AskV (.func (.func 73) #[] #[]) bareK w := ⟨73, #[], rfl, enter71, fun W b o x kv n ks cb _ h hb hK => bare71 h hb hK⟩
end Go.Proofs.YtnnnfabpceapcaaGreatDoor
