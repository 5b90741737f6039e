/- The speller, call by call. -/
import Derived.Test.YtnnnfabpceapcaaDoorSay
import Derived.Test.YtnnnfabpceapcaaDoorMay5
import Derived.Test.YtnnnfabpceapcaaDoorMay4
namespace Go.Proofs.YtnnnfabpceapcaaDoor
open Go.RowKit
set_option linter.unusedVariables false

/-- In a split's midst: pieces that say a text are laid. -/
def St (G : NdH → List Tr → Bool) (sp : Tr → List UInt8) (w0 : World) (A : Nat → Prop) (sb : Nat) (T : List Pc) (w : World) (L : List UInt8) (n : Nat) (W : World) : Prop := ∃ P, Sp A sb (T ++ P) W ∧ On A w W ∧ Says G sp w0 P L n
section
variable {G : NdH → List Tr → Bool} {sp : Tr → List UInt8} {A : Nat → Prop} {sb : Nat} {T : List Pc} {w w0 W : World} {L : List UInt8} {n : Nat}
theorem St.start (h : Sp A sb T w) : Hid (St G sp w0 A sb T w [] 0 w) := ⟨[], by simpa using h, On.rfl _ _, Says.nil⟩
theorem St.bel (h : St G sp w0 A sb T w L n W) (hw : Below w0.heap.size w0 w) (hA : ∀ k, k < w0.heap.size → A k) : Below w0.heap.size w0 W := by
  obtain ⟨P, _, h2, _⟩ := h
  exact hw.trans (h2.below hA hw.size)
theorem St.laid {M : List UInt8} {m : Nat} (h : St G sp w0 A sb T w L n W) (e : L = M) (hm : n ≤ m) : Laid G sp w0 A sb T w M m (.returned (.tuple #[])) W := by
  obtain ⟨P, h1, h2, h3⟩ := h
  exact ⟨rfl, P, h1, h2, (h3.is e).more hm⟩
theorem St.step {f : FuncId} {args : Array Value} {W' : World} {M : List UInt8} {m : Nat} (h : St G sp w0 A sb T w L n W) (hc : ∀ P, Sp A sb (T ++ P) W → P.length ≤ n → Calls Tryd.prog f args W' (Laid G sp w0 A sb (T ++ P) W M m)) : Calls Tryd.prog f args W' fun e w' => e = .returned (.tuple #[]) ∧ Hid (St G sp w0 A sb T w (L ++ M) (n + m) w') := by
  obtain ⟨P, h1, h2, h3⟩ := h
  refine (hc P h1 (Nat.le_trans (len_le_wts P) h3.wt)).mono fun e w' hq => ⟨hq.1, ?_⟩
  obtain ⟨_, Q, k1, k2, k3⟩ := hq
  exact ⟨P ++ Q, by rw [← List.append_assoc]; exact k1, h2.trans k2, h3.append k3⟩
theorem say_st (ts : List ByteArray) (h : St G sp w0 A sb T w L n W) (hT : T.length + n + ts.length ≤ 1099511627776) (tb m : Nat) (e1 : tb = W.heap.size) (e2 : m = ts.length) :
    Calls Tryd.prog 50 #[.pointer (some ⟨sb, 0, none⟩), .slice (some ⟨tb, 0, none⟩) m m] (W.alloc (.cells (ts.map Value.string).toArray 9)) fun e w' => e = .returned (.tuple #[]) ∧ Hid (St G sp w0 A sb T w (L ++ (ts.map lst).flatten) (n + ts.length) w') :=
  h.step fun P h1 hl => say_new G sp w0 ts h1 (by rw [List.length_append]; omega) tb m e1 e2
theorem put_st {b o : Nat} {x : NdH} {kv : Value} {i cb : Nat} {ks : List Tr} (hat : NdAt w0 b o x kv) (hb : b < w0.heap.size) (hK : Ks cb i w0 kv ks) (hG : allT G (Tr.node x ks) = true) (h : St G sp w0 A sb T w L n W) (hT : T.length + n ≤ 1099511627776) :
    Calls Tryd.prog 55 #[.pointer (some ⟨sb, 0, none⟩), .pointer (some ⟨b, o, none⟩)] W fun e w' => e = .returned (.tuple #[]) ∧ Hid (St G sp w0 A sb T w (L ++ sp (Tr.node x ks)) (n + wtT (Tr.node x ks)) w') :=
  h.step fun P h1 hl => put_new hat hb hK hG h1 (by rw [List.length_append]; omega)
theorem list_st {kv : Value} {i cb : Nat} {ks : List Tr} (bt : ByteArray) (hw : Below w0.heap.size w0 w) (hA : ∀ k, k < w0.heap.size → A k) (hK : Ks cb i w0 kv ks) (hG : allL G ks = true) (h : St G sp w0 A sb T w L n W) (hT : T.length + n + wtL ks ≤ 549755813888) :
    Calls Tryd.prog 56 #[.pointer (some ⟨sb, 0, none⟩), kv, .string bt] W fun e w' => e = .returned (.tuple #[]) ∧ Hid (St G sp w0 A sb T w (L ++ joinL (lst bt) (ks.map sp)) (n + wtL ks) w') :=
  h.step fun P h1 hl => list56 bt (h.bel hw hA) hA hK hG h1 (by rw [List.length_append]; omega)
end
theorem wtT_node (x : NdH) (ks : List Tr) : wtT (Tr.node x ks) = 20 + 23 * szL ks := by unfold wtT; rw [szT_node]; omega
theorem wtL_cons (t : Tr) (r : List Tr) : wtL (t :: r) = wtT t + 1 + wtL r := rfl

section
variable {G : NdH → List Tr → Bool} {qt : List UInt8 → List UInt8} {A : Nat → Prop} {sb : Nat} {T : List Pc} {w w0 : World} {b o : Nat} {x : NdH} {kv : Value} {n cb : Nat} {ks : List Tr}
/-- A node that is to be split, and where. -/
structure Job (G : NdH → List Tr → Bool) (A : Nat → Prop) (sb : Nat) (T : List Pc) (w0 w : World) (b o : Nat) (x : NdH) (kv : Value) (n cb : Nat) (ks : List Tr) : Prop where
  hw : Below w0.heap.size w0 w
  hA : ∀ k, k < w0.heap.size → A k
  sp : Sp A sb T w
  hat : NdAt w0 b o x kv
  hb : b < w0.heap.size
  hK : Ks cb n w0 kv ks
  hG : allL G ks = true
  hT : T.length + 30 + 23 * szL ks ≤ 549755813888
/-- What is laid says the node. -/
abbrev Spelt (G : NdH → List Tr → Bool) (qt : List UInt8 → List UInt8) (A : Nat → Prop) (sb : Nat) (T : List Pc) (w0 w : World) (x : NdH) (ks : List Tr) : Ending → World → Prop := Laid G (spellT qt) w0 A sb T w (spellN qt x ks (ks.map (spellT qt))) (19 + 23 * szL ks)

set_option maxHeartbeats 2000000 in
theorem prog39 (J : Job G A sb T w0 w b o x kv n cb ks) (hk : x.kind = 40) : Calls Tryd.prog 39 #[.pointer (some ⟨sb, 0, none⟩), .pointer (some ⟨b, o, none⟩)] w (Spelt G qt A sb T w0 w x ks) := by
  have hL := wtL_le ks
  have hT := J.hT
  obtain ⟨c0, _, _, _, c4, _⟩ := J.hat.below J.hw J.hb
  have hbw := Nat.lt_of_lt_of_le J.hb J.hw.size
  have s0 := St.start (G := G) (sp := spellT qt) (w0 := w0) J.sp
  obtain ⟨hkl, ao, cap, rfl⟩ := J.hK.shape
  have hF : Hid (joinL [] (ks.map (spellT qt)) = spellN qt x ks (ks.map (spellT qt))) := by
    show _ = _
    unfold spellN
    simp [hk]
  rw [hk] at c0
  go_enter Tryd.func39, Tryd.ntmps39
  go_wp2_with (go_at_call 56; refine (list_st ⟨#[]⟩ J.hw J.hA J.hK J.hG s0.out (by omega)).mono ?_; rintro e w1 ⟨rfl, s1⟩)
  go_end0
  exact s1.out.laid hF.out (by omega)
set_option maxHeartbeats 2000000 in
theorem type39 (J : Job G A sb T w0 w b o x kv n cb ks) (hk : x.kind = 16) : Calls Tryd.prog 39 #[.pointer (some ⟨sb, 0, none⟩), .pointer (some ⟨b, o, none⟩)] w (Spelt G qt A sb T w0 w x ks) := by
  have hT := J.hT
  obtain ⟨c0, c1, _, _, c4, _⟩ := J.hat.below J.hw J.hb
  have hbw := Nat.lt_of_lt_of_le J.hb J.hw.size
  have s0 := St.start (G := G) (sp := spellT qt) (w0 := w0) J.sp
  obtain ⟨hkl, ao, cap, rfl⟩ := J.hK.shape
  have hF : Hid ([] ++ (List.map lst [x.str]).flatten = spellN qt x ks (ks.map (spellT qt))) := by
    show _ = _
    unfold spellN
    simp [hk]
  rw [hk] at c0
  go_enter Tryd.func39, Tryd.ntmps39
  go_wp2_with (go_at_call 50; refine (say_st [x.str] s0.out (by simp; omega) _ _ rfl rfl).mono ?_; rintro e w1 ⟨rfl, s1⟩)
  go_end0
  exact s1.out.laid hF.out (by simp; omega)
end
end Go.Proofs.YtnnnfabpceapcaaDoor
