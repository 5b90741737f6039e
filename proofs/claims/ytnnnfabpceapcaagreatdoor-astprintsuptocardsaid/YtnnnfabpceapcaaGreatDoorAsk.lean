/- What is asked of kids: closures. -/
import Derived.Test.YtnnnfabpceapcaaGreatDoorMay4
import Derived.Test.YtnnnfabpceapcaaGreatDoorMay5
import Derived.Test.YtnnnfabpceapcaaGreatDoorName
namespace Go.Proofs.YtnnnfabpceapcaaGreatDoor
open Go.RowKit
set_option linter.unusedVariables false

theorem below_drewN (w : World) (n : Nat) : Below w.heap.size w (w.drewN n) := ⟨rfl, rfl, rfl, Nat.le_refl _, fun _ _ => rfl⟩
/-- A list of numbers, as cells. -/
def numC (l : List Int) : List Value := l.map fun k => .int .i64 k
/-- A slice holds numbers. -/
def Nums (w : World) (v : Value) (l : List Int) : Prop := ∃ b, b < w.heap.size ∧ v = .slice (some ⟨b, 0, none⟩) l.length l.length ∧ l.length ≤ 9223372036854775807 ∧ ∀ i (h : i < l.length), w.cell? ⟨b, i, none⟩ = some (.int .i64 l[i])
theorem Nums.below {w w' : World} {v : Value} {l : List Int} (h : Nums w v l) (hb : Below w.heap.size w w') : Nums w' v l := by
  obtain ⟨b, h1, h2, h3, h4⟩ := h
  exact ⟨b, Nat.lt_of_lt_of_le h1 hb.size, h2, h3, fun i hi => (hb.cell (p := ⟨b, i, none⟩) h1).trans (h4 i hi)⟩

/-- Is a number among these? -/
def hasI (l : List Int) (k : Int) : Bool := l.contains k
theorem hasI_nil (k : Int) : hasI [] k = false := rfl
theorem hasI_yes (k : Int) (r : List Int) : hasI (k :: r) k = true := by unfold hasI; simp
theorem hasI_no {k q : Int} (r : List Int) (h : k ≠ q) : hasI (q :: r) k = hasI r k := by unfold hasI; rw [List.contains_cons]; simp [h]
set_option maxHeartbeats 2000000 in
theorem index92 {w : World} {v : Value} {l : List Int} (k : Int) (h : Nums w v l) : Calls Tryz.prog 115 #[v, .int .i64 k] w fun e w' => (∃ r : Int, e = .returned (.int .i64 r) ∧ Hid (decide (0 ≤ r) = hasI l k)) ∧ w' = w := by
  obtain ⟨b, hb, rfl, hl, hc⟩ := h
  obtain ⟨X, hX⟩ : ∃ X, X = hasI l k := ⟨_, rfl⟩
  rw [← hX]
  replace hX := hid' hX
  go_enter Tryz.func115, Tryz.ntmps115
  go_wp2
  go_loop [8] (fun i => ∃ j : Nat, j ≤ l.length ∧ i = .int .i64 j ∧ Hid (X = hasI (l.drop j) k)) (fun i => l.length - (intOf i).toNat)
  case atStart => exact ⟨0, Nat.zero_le _, rfl, hX⟩
  case round =>
    obtain ⟨j, hj, rfl, HX⟩ := hrel
    by_cases hlt : j < l.length
    · have c0 := hc j hlt
      have hd : Hid (l.drop j = l[j] :: l.drop (j + 1)) := List.drop_eq_getElem_cons hlt
      by_cases he : k = l[j]
      · have HE : Hid (X = true) := by
          show _ = _
          rw [HX.out, hd.out, ← he, hasI_yes]
        rw [← he] at c0
        clear he hd hc
        go_wp2
        go_ret
        exact ⟨⟨_, rfl, (decide_eq_true (by omega)).trans HE.out.symm⟩, rfl⟩
      · have HE : Hid (X = hasI (l.drop (j + 1)) k) := by
          show _ = _
          rw [HX.out, hd.out, hasI_no _ he]
        generalize l[j] = q at *
        clear hd hc
        go_wp2
        all_goals exact ⟨⟨j + 1, by omega, by go_num, HE⟩, by simp [intOf]; omega⟩
    · have HE : Hid (X = false) := by
        show _ = _
        rw [HX.out, List.drop_eq_nil_of_le (by omega), hasI_nil]
      clear hc
      go_wp2
      go_ret
      exact ⟨⟨_, rfl, (show decide ((0:Int) ≤ -1) = false from rfl).trans HE.out.symm⟩, rfl⟩
set_option maxHeartbeats 2000000 in
theorem contains83 {w : World} {v : Value} {l : List Int} (k : Int) (h : Nums w v l) : Calls Tryz.prog 99 #[v, .int .i64 k] w fun e w' => e = .returned (.bool (hasI l k)) ∧ w' = w := by
  have H := hid' (index92 k h)
  obtain ⟨b, _, rfl, _, _⟩ := h
  generalize hasI l k = q at *
  go_enter Tryz.func99, Tryz.ntmps99
  go_wp2_with (go_at_call 115; (with_reducible refine H.out.mono ?_); rintro e w1 ⟨⟨r, rfl, hr⟩, rfl⟩)
  all_goals go_ret
  all_goals exact ⟨ret_b hr.out, rfl⟩

/-- What is asked, as a value: a function, and what it answers of a node. -/
def AskV (a : Value) (F : NdH → List Tr → Bool) (w0 : World) : Prop := ∃ g caps, a = .func (.func g) #[] caps ∧ (∀ (args : Array Value) (W : World), (callFunc g args).run Tryz.prog W = .ok (.enter g args) W) ∧
  ∀ (W : World) (b o : Nat) (x : NdH) (kv : Value) (n : Nat) (ks : List Tr) (cb : Nat), Below w0.heap.size w0 W → NdAt W b o x kv → b < W.heap.size → Ks cb n W kv ks → Calls Tryz.prog g (#[.pointer (some ⟨b, o, none⟩)] ++ caps) W fun e w' => e = .returned (.bool (F x ks)) ∧ Below W.heap.size W w'
theorem AskV.below {a : Value} {F : NdH → List Tr → Bool} {w w' : World} (h : AskV a F w) (hb : Below w.heap.size w w') : AskV a F w' := by
  obtain ⟨g, caps, e, hg, hc⟩ := h
  exact ⟨g, caps, e, hg, fun W b o x kv n ks cb h1 => hc W b o x kv n ks cb (below_on hb h1)⟩
theorem enter35 (args : Array Value) (W : World) : (callFunc 44 args).run Tryz.prog W = .ok (.enter 44 args) W := by
  simp [go_sem]
theorem enter37 (args : Array Value) (W : World) : (callFunc 46 args).run Tryz.prog W = .ok (.enter 46 args) W := by
  simp [go_sem]
theorem enter82 (args : Array Value) (W : World) : (callFunc 98 args).run Tryz.prog W = .ok (.enter 98 args) W := by
  simp [go_sem]
def isExpr (x : NdH) (ks : List Tr) : Bool := decide (1 ≤ x.kind ∧ x.kind ≤ 15)
def isStmt (x : NdH) (ks : List Tr) : Bool := decide (47 ≤ x.kind ∧ x.kind ≤ 56)
theorem ask35 (w : World) : AskV (.func (.func 44) #[] #[]) isExpr w := ⟨44, #[], rfl, enter35, fun W b o x kv n ks cb _ h hb _ => (expr35 h hb).mono fun e w' h => ⟨h.1, by rw [h.2]; exact Below.refl _ _⟩⟩
theorem ask37 (w : World) : AskV (.func (.func 46) #[] #[]) isStmt w := ⟨46, #[], rfl, enter37, fun W b o x kv n ks cb _ h hb _ => (stmt37 h hb).mono fun e w' h => ⟨h.1, by rw [h.2]; exact Below.refl _ _⟩⟩
/-- of's closure. -/
def ofK (l : List Int) (x : NdH) (ks : List Tr) : Bool := hasI l x.kind
set_option maxHeartbeats 2000000 in
theorem see82 {w : World} {b o cb : Nat} {x : NdH} {kv v : Value} {l : List Int} (h : NdAt w b o x kv) (hb : b < w.heap.size) (hc : w.cell? ⟨cb, 0, none⟩ = some v) (hcb : cb < w.heap.size) (hN : Nums w v l) :
    Calls Tryz.prog 98 #[.pointer (some ⟨b, o, none⟩), .pointer (some ⟨cb, 0, none⟩)] w fun e w' => e = .returned (.bool (ofK l x [])) ∧ Below w.heap.size w w' := by
  obtain ⟨c0, _, _, _, _, _⟩ := h
  have H : Hid (∀ W : World, Nums W v l → Calls Tryz.prog 99 #[v, .int .i64 x.kind] W fun e w' => e = .returned (.bool (hasI l x.kind)) ∧ w' = W) := fun W h => contains83 _ h
  have HN := hid' hN
  obtain ⟨nb, _, rfl, _, _⟩ := hN
  unfold ofK
  generalize x.kind = k at *
  generalize hasI l k = q at *
  go_enter Tryz.func98, Tryz.ntmps98
  go_wp2
  go_quiet (exact Calls.quiet_of_same (H.out _ HN.out))
  go_wp2
  go_ret
  exact ⟨rfl, below_drewN _ _⟩
theorem of66 {w : World} {ao : Option Addr} {m c : Nat} : Calls Tryz.prog 68 #[.slice ao m c] w fun e w' => e = .returned (.func (.func 98) #[] #[.pointer (some ⟨w.heap.size, 0, none⟩)]) ∧ w' = w.alloc (.cells #[.slice ao m c] 93) := by
  have hmf : ∀ (fn : Fn) (first cap : Array Value) (w : World), (Instr.makeFunc fn first cap).run Tryz.prog w = .ok (.func fn first cap) w := fun _ _ _ _ => rfl
  go_enter Tryz.func68, Tryz.ntmps68
  go_wp2
  go_ret
  exact ⟨rfl, rfl⟩
theorem ask82 {w : World} {v : Value} {l : List Int} (h : Nums w v l) : AskV (.func (.func 98) #[] #[.pointer (some ⟨w.heap.size, 0, none⟩)]) (ofK l) (w.alloc (.cells #[v] 93)) :=
  ⟨98, _, rfl, enter82, fun W b o x kv n ks cb hB h1 h2 _ => see82 h1 h2 (by rw [hB.cell (p := ⟨w.heap.size, 0, none⟩) (by simp)]; simp [go_sem]) (by have := hB.size; simp at this; omega) (h.below (below_on (below1 _ _) hB))⟩

/-- A question, of a tree. -/
def onT (F : NdH → List Tr → Bool) : Tr → Bool
  | .slice ks [.held x] => F x ks
  | _ => true
theorem onT_node (F : NdH → List Tr → Bool) (x : NdH) (ks : List Tr) : onT F (Tr.node x ks) = F x ks := rfl
def allK (F : NdH → List Tr → Bool) (ks : List Tr) : Bool := ks.all (onT F)
theorem allK_nil (F : NdH → List Tr → Bool) : allK F [] = true := rfl
theorem allK_cons (F : NdH → List Tr → Bool) (x : NdH) (k r : List Tr) : allK F (Tr.node x k :: r) = (F x k && allK F r) := rfl

set_option maxHeartbeats 2000000 in
theorem all68 {w : World} {a kv : Value} {F : NdH → List Tr → Bool} {n cb : Nat} {ks : List Tr} (hA : AskV a F w) (hK : Ks cb n w kv ks) :
    Calls Tryz.prog 70 #[kv, a] w fun e w' => e = .returned (.bool (allK F ks)) ∧ Below w.heap.size w w' := by
  obtain ⟨g, caps, rfl, hg, hC⟩ := hA
  obtain ⟨hkl, ao, cap, rfl⟩ := hK.shape
  have HC := hid' hC
  have HK := hid' hK
  clear hC hK
  obtain ⟨X, hX⟩ : ∃ X, X = allK F ks := ⟨_, rfl⟩
  rw [← hX]
  replace hX := hid' hX
  go_enter Tryz.func70, Tryz.ntmps70
  go_wp2
  go_loopw [8] (fun i W => ∃ j : Nat, j ≤ ks.length ∧ i = .int .i64 j ∧ Hid (X = allK F (ks.drop j)) ∧ Hid (Below w.heap.size w W)) (fun i _ => ks.length - (intOf i).toNat)
  case atStart => exact ⟨0, Nat.zero_le _, rfl, hX, Below.refl _ _⟩
  case round =>
    obtain ⟨j, hj, rfl, HX, HB⟩ := hrel
    by_cases hlt : j < ks.length
    · obtain ⟨m', b, off, x', kv', ks', hm', rfl, ⟨hbl, hbn⟩, hke, hat, hK'⟩ := HK.out.kid j hlt
      have hS := hid' (HC.out wr b (off + j * 6) x' kv' m' ks' cb HB.out (hat.below HB.out hbl) (Nat.lt_of_lt_of_le hbl HB.out.size) (hK'.below HB.out))
      have hd : Hid (X = (F x' ks' && allK F (ks.drop (j + 1)))) := by
        show _ = _
        rw [HX.out, List.drop_eq_getElem_cons hlt, hke, allK_cons]
      clear hat hK' hke HX
      cases hF : F x' ks' with
      | true =>
        rw [hF] at hS hd
        go_wp2_with ((with_reducible refine hS.out.mono ?_); rintro e5 w5 ⟨rfl, hb5⟩; replace hb5 := hid' hb5)
        exact ⟨⟨j + 1, by omega, by go_num, hd.out, below_on HB.out hb5.out⟩, by simp [intOf]; omega⟩
      | false =>
        rw [hF] at hS hd
        go_wp2_with ((with_reducible refine hS.out.mono ?_); rintro e5 w5 ⟨rfl, hb5⟩; replace hb5 := hid' hb5)
        go_ret
        exact ⟨ret_b hd.out.symm, below_on HB.out hb5.out⟩
    · have hd : Hid (X = true) := by
        show _ = _
        rw [HX.out, List.drop_eq_nil_of_le (by omega), allK_nil]
      go_wp2
      go_ret
      exact ⟨ret_b hd.out.symm, HB.out⟩

abbrev Ask := NdH → List Tr → Bool
/-- Do kids keep to a row of questions? -/
def areK : List Ask → List Tr → Bool
  | [], [] => true
  | F :: Fs, t :: ts => onT F t && areK Fs ts
  | _, _ => false
theorem areK_len : ∀ (Fs : List Ask) (ks : List Tr), ks.length ≠ Fs.length → areK Fs ks = false
  | [], [], h => absurd rfl h
  | [], _ :: _, _ => rfl
  | _ :: _, [], _ => rfl
  | F :: Fs, t :: ts, h => by
    show (onT F t && areK Fs ts) = false
    rw [areK_len Fs ts (fun e => h (by simp [e])), Bool.and_false]
/-- A slice holds questions. -/
def Asks (w : World) (v : Value) (L : List Ask) : Prop := L.length ≤ 1000 ∧ ∃ ao, v = .slice ao L.length L.length ∧ ∀ i (h : i < L.length), ∃ b a, ao = some ⟨b, 0, none⟩ ∧ b < w.heap.size ∧ w.cell? ⟨b, i, none⟩ = some a ∧ AskV a L[i] w
theorem Asks.below {w w' : World} {v : Value} {L : List Ask} (h : Asks w v L) (hb : Below w.heap.size w w') : Asks w' v L := by
  obtain ⟨h0, ao, h1, h2⟩ := h
  refine ⟨h0, ao, h1, fun i hi => ?_⟩
  obtain ⟨b, a, e, hl, hc, hA⟩ := h2 i hi
  exact ⟨b, a, e, Nat.lt_of_lt_of_le hl hb.size, (hb.cell (p := ⟨b, i, none⟩) hl).trans hc, hA.below hb⟩
theorem Asks.none_ (w : World) : Asks w (.slice none 0 0) [] := ⟨by simp, none, rfl, fun i h => by simp at h⟩

set_option maxHeartbeats 2000000 in
theorem are67 {w : World} {v kv : Value} {L : List Ask} {n cb : Nat} {ks : List Tr} (hA : Asks w v L) (hK : Ks cb n w kv ks) :
    Calls Tryz.prog 69 #[kv, v] w fun e w' => e = .returned (.bool (areK L ks)) ∧ Below w.heap.size w w' := by
  obtain ⟨hL, aa, rfl, hQ⟩ := hA
  obtain ⟨hkl, ao, cap, rfl⟩ := hK.shape
  have HQ := hid' hQ
  have HK := hid' hK
  clear hQ hK
  by_cases hlen : ks.length = L.length
  rotate_left
  · rw [areK_len L ks hlen]
    go_enter Tryz.func69, Tryz.ntmps69
    go_wp2
    all_goals go_ret
    all_goals exact ⟨rfl, Below.refl _ _⟩
  obtain ⟨X, hX⟩ : ∃ X, X = areK L ks := ⟨_, rfl⟩
  rw [← hX]
  replace hX := hid' hX
  rw [hlen] at hkl HK ⊢
  go_enter Tryz.func69, Tryz.ntmps69
  go_wp2
  go_loopw [14] (fun i W => ∃ j : Nat, j ≤ L.length ∧ i = .int .i64 j ∧ Hid (X = areK (L.drop j) (ks.drop j)) ∧ Hid (Below w.heap.size w W)) (fun i _ => L.length - (intOf i).toNat)
  case atStart => exact ⟨0, Nat.zero_le _, rfl, hX, Below.refl _ _⟩
  case round =>
    obtain ⟨j, hj, rfl, HX, HB⟩ := hrel
    by_cases hlt : j < L.length
    · obtain ⟨m', b, off, x', kv', ks', hm', rfl, ⟨hbl, hbn⟩, hke, hat, hK'⟩ := HK.out.kid j (by omega)
      obtain ⟨ab, a, rfl, hab, hac, hAV⟩ := HQ.out j hlt
      obtain ⟨g, caps, rfl, hg, hC⟩ := hAV
      have hac' := (HB.out.cell (p := ⟨ab, j, none⟩) hab).trans hac
      have hS := hid' (hC wr b (off + j * 6) x' kv' m' ks' cb HB.out (hat.below HB.out hbl) (Nat.lt_of_lt_of_le hbl HB.out.size) (hK'.below HB.out))
      have hd : Hid (X = (L[j] x' ks' && areK (L.drop (j + 1)) (ks.drop (j + 1)))) := by
        show _ = _
        rw [HX.out, List.drop_eq_getElem_cons hlt, List.drop_eq_getElem_cons (show j < ks.length by omega), hke]
        rfl
      have habW := Nat.lt_of_lt_of_le hab HB.out.size
      clear hat hK' hke HX hC hac
      cases hF : L[j] x' ks' with
      | true =>
        rw [hF] at hS hd
        clear hF
        go_wp2_with ((with_reducible refine hS.out.mono ?_); rintro e5 w5 ⟨rfl, hb5⟩; replace hb5 := hid' hb5)
        exact ⟨⟨j + 1, by omega, by go_num, hd.out, below_on HB.out hb5.out⟩, by simp [intOf]; omega⟩
      | false =>
        rw [hF] at hS hd
        clear hF
        go_wp2_with ((with_reducible refine hS.out.mono ?_); rintro e5 w5 ⟨rfl, hb5⟩; replace hb5 := hid' hb5)
        go_ret
        exact ⟨ret_b hd.out.symm, below_on HB.out hb5.out⟩
    · have hd : Hid (X = true) := by
        show _ = _
        rw [HX.out, List.drop_eq_nil_of_le (by omega), List.drop_eq_nil_of_le (by omega)]
        rfl
      go_wp2
      go_ret
      exact ⟨ret_b hd.out.symm, HB.out⟩
end Go.Proofs.YtnnnfabpceapcaaGreatDoor
