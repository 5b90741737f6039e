/- Loops, plainly; the top of a stack of one's own. backEdges. body. -/
import Derived.Test.YtgkaeoieclegjaaFg
import Derived.Test.YtgkaeoieclegjaaWx
namespace Go.Proofs.Ytgkaeoieclegjaa
section
open Go Go.RowKit Go.Maps
set_option linter.unusedVariables false
set_option linter.unusedSimpArgs false
/-- From p a back edge goes to h. -/
def BackE (bl : List Bl) (h p : Nat) : Prop := p < bl.length ∧ (h : Int) ∈ succN bl p ∧ TabB bl h p
/-- In the loop of h. -/
def LoopIn (bl : List Bl) (h x : Nat) : Prop := ∀ P : Nat → Prop, P h → (∀ p, BackE bl h p → P p) → (∀ b y, P b → b ≠ h → y < bl.length → (b : Int) ∈ succN bl y → WayB bl y → P y) → P x
section
variable {bl : List Bl} {h : Nat}
theorem LoopIn.head : LoopIn bl h h := fun _ p _ _ => p
theorem LoopIn.back {p : Nat} (hp : BackE bl h p) : LoopIn bl h p := fun _ _ q _ => q p hp
theorem LoopIn.pred {b y : Nat} (hb : LoopIn bl h b) (hne : b ≠ h) (hy : y < bl.length) (he : (b : Int) ∈ succN bl y) (hw : WayB bl y) : LoopIn bl h y := fun P p q r => r b y (hb P p q r) hne hy he hw
end
/-- What the search for a body keeps: in F, and waiting. -/
structure BoI (bl : List Bl) (h : Nat) (F : Nat → Bool) (st : List Nat) : Prop where
  yes : ∀ x, F x = true → x < bl.length → LoopIn bl h x
  wait : ∀ x, x ∈ st → x < bl.length ∧ LoopIn bl h x
  head : F h = true
  back : ∀ p, BackE bl h p → F p = true ∨ p ∈ st
  pred : ∀ b y, F b = true → b < bl.length → b ≠ h → y < bl.length → (b : Int) ∈ succN bl y → WayB bl y → F y = true ∨ y ∈ st
theorem BoI.old {bl : List Bl} {h x : Nat} {F : Nat → Bool} {st : List Nat} (H : BoI bl h F (st ++ [x])) (hx : F x = true) : BoI bl h F st :=
  ⟨H.yes, fun y hy => H.wait y (List.mem_append.2 (.inl hy)), H.head, fun p hp => (H.back p hp).elim .inl fun e => (List.mem_append.1 e).elim .inr fun e => .inl (by obtain rfl := List.mem_singleton.1 e; exact hx), fun b y h1 h2 h3 h4 h5 h6 => (H.pred b y h1 h2 h3 h4 h5 h6).elim .inl fun e => (List.mem_append.1 e).elim .inr fun e => .inl (by obtain rfl := List.mem_singleton.1 e; exact hx)⟩
theorem BoI.new {bl : List Bl} {h x : Nat} {F : Nat → Bool} {st pl : List Nat} (H : BoI bl h F (st ++ [x])) (hx : F x = false) (hpl : ∀ y, y ∈ pl ↔ y < bl.length ∧ (x : Int) ∈ succN bl y ∧ WayB bl y) : BoI bl h (Dfs.upd F x true) (st ++ pl) := by
  obtain ⟨hxn, hxl⟩ := H.wait x (List.mem_append.2 (.inr (by simp)))
  have hxh : x ≠ h := fun e => by
    rw [e, H.head] at hx
    cases hx
  have up : ∀ y, F y = true → Dfs.upd F x true y = true := fun y hy => by
    by_cases e : y = x
    · subst e; exact Dfs.upd_same _ _ _
    · rw [Dfs.upd_ne _ _ e]; exact hy
  have mv : ∀ y, F y = true ∨ y ∈ st ++ [x] → Dfs.upd F x true y = true ∨ y ∈ st ++ pl := fun y hy => by
    rcases hy with hy | hy
    · exact .inl (up y hy)
    · rcases List.mem_append.1 hy with hy | hy
      · exact .inr (List.mem_append.2 (.inl hy))
      · obtain rfl := List.mem_singleton.1 hy
        exact .inl (Dfs.upd_same _ _ _)
  refine ⟨fun y hy hyn => ?_, fun y hy => ?_, up h H.head, fun p hp => mv p (H.back p hp), fun b y h1 h2 h3 h4 h5 h6 => ?_⟩
  · by_cases e : y = x
    · subst e; exact hxl
    · rw [Dfs.upd_ne _ _ e] at hy
      exact H.yes y hy hyn
  · rcases List.mem_append.1 hy with hy | hy
    · exact H.wait y (List.mem_append.2 (.inl hy))
    · obtain ⟨p1, p2, p3⟩ := (hpl y).1 hy
      exact ⟨p1, hxl.pred hxh p1 p2 p3⟩
  · by_cases e : b = x
    · subst e
      exact .inr (List.mem_append.2 (.inr ((hpl y).2 ⟨h4, h5, h6⟩)))
    · rw [Dfs.upd_ne _ _ e] at h1
      exact mv y (H.pred b y h1 h2 h3 h4 h5 h6)
theorem BoI.done {bl : List Bl} {h : Nat} {F : Nat → Bool} (H : BoI bl h F []) {x : Nat} (hx : x < bl.length) (hh : h < bl.length) : F x = true ↔ LoopIn bl h x := by
  refine ⟨fun e => H.yes x e hx, fun hl => ?_⟩
  have := hl (fun y => F y = true ∧ y < bl.length) ⟨H.head, hh⟩ (fun p hp => ⟨(H.back p hp).resolve_right (by simp), hp.1⟩) (fun b y hb hne hy he hw => ⟨(H.pred b y hb.1 hb.2 hne hy he hw).resolve_right (by simp), hy⟩)
  exact this.1
theorem own_pop {W : World} {B h c : Nat} {st : List Int} {i : Int} (H : Own 3 1 icell W B (.slice (some ⟨h, 0, none⟩) (st.length + 1) c) (st ++ [i])) : Own 3 1 icell W B (.slice (some ⟨h, 0, none⟩) st.length c) st := by
  rcases H.2 with ⟨e, _⟩ | ⟨g5, c5, cu5, e5, a1, a2, a3, a4, a5, a6⟩
  · cases e
  · injection e5 with e1 e2 e3
    injection e1 with e1
    injection e1 with e1
    subst e1 e3
    refine ⟨by rw [flat_length ic1], .inr ⟨h, c, cu5, rfl, a1, a2, by rw [List.length_append] at a3; omega, a4, a5, ?_⟩⟩
    have e7 : (cu5.toList.take ((st ++ [i]).length * 1)).take (st.length * 1) = cu5.toList.take (st.length * 1) := by rw [List.take_take, List.length_append]; congr 1; simp
    rw [← e7, a6, flat_append]
    rw [List.take_append_of_le_length (by rw [flat_length ic1]; omega), List.take_of_length_le (by rw [flat_length ic1]; omega)]
/-- What a row of bools holds, by its world. -/
def cellB (W : World) (g x : Nat) : Bool := match W.cell? ⟨g, x, none⟩ with
  | some (.bool b) => b
  | _ => false
theorem cellB_is {W : World} {g n x : Nat} {F : Nat → Bool} (h : RowB W g n F) (hx : x < n) : cellB W g x = F x := by
  unfold cellB
  rw [h.cell hx]
theorem unm_congr {F G : Nat → Bool} : ∀ {n : Nat}, (∀ x, x < n → F x = G x) → unm F n = unm G n
  | 0, _ => rfl
  | n + 1, h => by
    have := unm_congr (n := n) (fun x hx => h x (by omega))
    unfold unm at *
    unfold rest
    rw [this, h n (by omega)]
end
section
open Go Go.RowKit Go.Maps
set_option linter.unusedVariables false
set_option linter.unusedSimpArgs false
theorem ints_snoc (l : List Nat) (x : Nat) : ints l ++ [(x : Int)] = ints (l ++ [x]) := by simp [ints]
theorem ints_len (l : List Nat) : (ints l).length = l.length := by simp [ints]
/-- What backEdges tells. -/
def BkR (bl : List Bl) (h : Nat) (w : World) (e : Ending) (w' : World) : Prop :=
  ∃ (v : Value) (l : List Nat), e = .returned v ∧ Own 3 1 icell w' w.heap.size v (ints l) ∧ l.length ≤ bl.length + 1 ∧ (∀ p, p ∈ l ↔ BackE bl h p) ∧ Below w.heap.size w w'
set_option maxRecDepth 20000 in
set_option maxHeartbeats 8000000 in
theorem back35 {w : World} {bl : List Bl} {q rg B : Nat} {vr : List Value} {D : Nat → Option Nat} (hD : DomOk bl D) (hR : RowI w q bl.length (fun b => oi (D b))) (hP : PM w B rg vr (rpF bl)) (hbl : bl.length * 64 ≤ big) {h : Nat} (hh : h < bl.length) :
    Calls Try.prog 35 #[.slice (some ⟨q, 0, none⟩) bl.length bl.length, .slice (some ⟨rg, 0, none⟩) bl.length bl.length, .int .i64 (h : Nat)] w (BkR bl h w) := by
  have hrl : (rpF bl).length = bl.length := by unfold rpF; rw [List.length_map, predsF_len]
  obtain ⟨ao, cap, ev, hc0, hsrc⟩ := hP.read (k := h) (by omega)
  have epl : (rpF bl).getD h [] = (rpF bl)[h] := by simp [hrl, hh]
  have HPM : Hid (∀ x, x ∈ (rpF bl)[h] ↔ ∃ m : Nat, m < bl.length ∧ x = m ∧ (h : Int) ∈ succN bl m ∧ reN bl m = true) := fun x => by
    rw [← epl]
    exact rpF_mem bl hh
  have hpll : (rpF bl)[h].length ≤ bl.length + 1 := by
    have h1 : h < (predsF bl).length := by rw [predsF_len]; exact hh
    have h2 := predsF_bound bl (List.getElem_mem h1)
    have e : (rpF bl)[h] = keepF (reN bl) ((predsF bl)[h]) := by unfold rpF; simp
    rw [e]
    have h3 := keepF_len (reN bl) ((predsF bl)[h])
    omega
  obtain ⟨num, hnum⟩ := hD.fall
  have H31 : Hid (∀ W, Below w.heap.size w W → ∀ p R, p < bl.length → (R = true ↔ AboveB D (h : Int) p) → Calls Try.prog 31 #[.slice (some ⟨q, 0, none⟩) bl.length bl.length, .int .i64 (h : Int), .int .i64 (p : Nat)] W fun e w' => e = .returned (.bool R) ∧ w' = W) := fun W hW p R hp hRes => isAbove31 (hR.on hW) (by unfold big at hbl ⊢; omega) (fun b d hb e => (hD.yes b d hb e).1) hnum (h : Int) hp hRes
  have HAB : Hid (∀ p, p < bl.length → WayB bl p → (AboveB D (h : Int) p ↔ TabB bl h p)) := fun p hp hw => above_tab hD hh hp hw
  have HSRC := hid' hsrc
  unfold big at hbl
  clear hsrc hP hR ev epl hnum hD
  generalize (rpF bl)[h]'(by omega) = pl at *
  go_enter Try.func35, Try.ntmps35
  go_wp2_with fail
  go_loopw [7, 15] (fun ov iv wr => ∃ (i : Nat) (l : List Nat) (ou : Value), ou = ov ∧ i ≤ pl.length ∧ iv = .int .i64 i ∧ Own 3 1 icell wr w.heap.size ou (ints l) ∧ l.length ≤ i ∧ (∀ p : Nat, p ∈ l ↔ (∃ j, j < i ∧ pl[j]? = some (p : Int)) ∧ TabB bl h p) ∧ Below w.heap.size w wr) (fun _ iv _ => pl.length - (intOf iv).toNat)
  case atStart => exact ⟨0, [], _, rfl, Nat.zero_le _, rfl, World.ownsRow_nil _ _ _ _, Nat.le_refl _, fun p => ⟨fun hp => by simp at hp, fun ⟨⟨j, hj, _⟩, _⟩ => by omega⟩, Below.refl _ _⟩
  case round =>
    obtain ⟨i, l, ou, rfl, hi, rfl, hO, hl, hm, hB⟩ := hrel
    have HO := hid' hO
    have HM := hid' hm
    have HB := hid' hB
    clear hO hm hB
    by_cases hil : i < pl.length
    · obtain ⟨aoS, capS, eS, hcS⟩ := (HSRC.out.on HB.out).ints
      injection eS with eS1 _ eS3
      subst eS1 eS3
      obtain ⟨pb, poff, rfl, _, hple, hpcell⟩ := hcS i hil
      have q0 := hpcell wr (Below.refl _ _)
      obtain ⟨p, hpn, ep, hpe, hpr⟩ := (HPM.out _).1 (List.getElem_mem hil)
      rw [ep] at q0
      have hpi : pl[i]? = some (p : Int) := by rw [List.getElem?_eq_getElem hil, ep]
      have hway : WayB bl p := (reach_way (by omega)).1 hpr
      have hab := HAB.out p hpn hway
      have step : ∀ x : Nat, (∃ j, j < i + 1 ∧ pl[j]? = some (x : Int)) ↔ (∃ j, j < i ∧ pl[j]? = some (x : Int)) ∨ x = p := fun x => by
        constructor
        · rintro ⟨j, hj, hx⟩
          by_cases e : j = i
          · subst e
            rw [hpi] at hx
            injection hx with hx
            exact .inr (by omega)
          · exact .inl ⟨j, by omega, hx⟩
        · rintro (⟨j, hj, hx⟩ | rfl)
          · exact ⟨j, by omega, hx⟩
          · exact ⟨i, by omega, hpi⟩
      obtain ⟨R, hR⟩ := bool_of (TabB bl h p)
      have h31 := H31.out wr HB.out p R hpn (hR.trans hab.symm)
      have HN31 := hid' h31
      clear hcS hpcell ep hpe hpr hway h31
      cases R with
      | false =>
        have hnt : ¬ TabB bl h p := fun ht => by have := hR.2 ht; cases this
        have HN : Hid (∀ x : Nat, x ∈ l ↔ (∃ j, j < i + 1 ∧ pl[j]? = some (x : Int)) ∧ TabB bl h x) := fun x => by
          rw [HM.out x, step x]
          constructor
          · rintro ⟨h1, h2⟩
            exact ⟨.inl h1, h2⟩
          · rintro ⟨h1 | rfl, h2⟩
            · exact ⟨h1, h2⟩
            · exact absurd h2 hnt
        clear hnt hR step hab hpi
        go_wp2_with (go_at_call 31; refine HN31.out.mono ?_; rintro e1 w5 ⟨rfl, hw5⟩; subst hw5)
        go_roundw
        case rel => exact ⟨i + 1, l, _, rfl, by omega, by go_num, HO.out, by omega, HN.out, HB.out⟩
        case measure => simp [intOf]; omega
      | true =>
        have ht : TabB bl h p := hR.1 rfl
        have HN : Hid (∀ x : Nat, x ∈ l ++ [p] ↔ (∃ j, j < i + 1 ∧ pl[j]? = some (x : Int)) ∧ TabB bl h x) := fun x => by
          rw [List.mem_append, HM.out x, step x, List.mem_singleton]
          constructor
          · rintro (⟨h1, h2⟩ | rfl)
            · exact ⟨.inl h1, h2⟩
            · exact ⟨.inr rfl, ht⟩
          · rintro ⟨h1 | rfl, h2⟩
            · exact .inl ⟨h1, h2⟩
            · exact .inr rfl
        obtain ⟨wq, ewq⟩ : ∃ wq, wq = wr.alloc (.cells #[.int .i64 (p : Int)] 3) := ⟨_, rfl⟩
        have hbq : Below wr.heap.size wr wq := by rw [ewq]; exact below1 _ _
        have hqq : wq.heap[wr.heap.size]? = some (.cells #[.int .i64 (p : Int)] 3 (0, 0)) := by rw [ewq]; exact heap_alloc_new _ _
        have hBq := below_up HB.out hbq
        obtain ⟨b7, cap7, w7, hr7, hO7, hB7, hK7⟩ := app_int ((Kept.of_below (S := fun _ => False) hbq).owns HO.out (fun _ _ e => e)) hBq.size hqq (by rw [ints_len]; omega)
        rw [ints_len] at hr7 hO7
        rw [ints_snoc] at hO7
        have HR7 := hid' (hr7 26)
        rw [ewq] at HR7
        have HO7 := hid' hO7
        have HB7 := hid' (hBq.trans hB7)
        clear hbq hqq hBq hr7 hO7 hB7 hK7 ewq ht hR step hab hpi
        go_wp2_with (first | (go_at_call 31; refine HN31.out.mono ?_; rintro e1 w5 ⟨rfl, rfl⟩) | (at_builtin; refine of_mark ?_))
        unfold Mark
        refine wpList_append_run rfl (.tmp 23) (.tmp 25) rfl ou (.slice (some ⟨w5.heap.size, 0, none⟩) 1 1) _ (by rfl) (by rfl) HR7.out ?_
        go_wp2_with fail
        go_roundw
        case rel => exact ⟨i + 1, l ++ [p], _, rfl, by omega, by go_num, HO7.out, by rw [List.length_append, List.length_singleton]; omega, HN.out, HB7.out⟩
        case measure => simp [intOf]; omega
    · have e : i = pl.length := by omega
      subst e
      have HFIN : Hid (∀ p, p ∈ l ↔ BackE bl h p) := fun p => by
        rw [HM.out p]
        constructor
        · rintro ⟨⟨j, hj, hx⟩, ht⟩
          obtain ⟨m, h1, h2, h3, _⟩ := (HPM.out _).1 (List.mem_of_getElem? hx)
          obtain rfl : p = m := by omega
          exact ⟨h1, h3, ht⟩
        · rintro ⟨h1, h2, ht⟩
          have hm : (p : Int) ∈ pl := (HPM.out _).2 ⟨p, h1, rfl, h2, (reach_way (by omega)).2 ht.2.1⟩
          obtain ⟨j, hj, e⟩ := List.getElem_of_mem hm
          exact ⟨⟨j, hj, by rw [List.getElem?_eq_getElem hj, e]⟩, ht⟩
      go_wp2_with fail
      go_ret
      exact ⟨ou, l, rfl, HO.out, by omega, HFIN.out, HB.out⟩
end
section
open Go Go.RowKit Go.Maps
set_option linter.unusedVariables false
set_option linter.unusedSimpArgs false
theorem inL_congr {P Q : Nat → Prop} : ∀ {n : Nat}, (∀ x, x < n → (P x ↔ Q x)) → inL P n = inL Q n
  | 0, _ => rfl
  | n + 1, h => by
    have h1 := inL_congr (n := n) (fun x hx => h x (by omega))
    have h2 := h n (by omega)
    by_cases e : P n
    · rw [inL_yes e, inL_yes (h2.1 e), h1]
    · rw [inL_no e, inL_no (fun e2 => e (h2.2 e2)), h1]
def lenV : Value → Nat
  | .slice _ n _ => n
  | _ => 0
/-- What body tells. -/
def BdR (bl : List Bl) (h : Nat) (W0 : World) (e : Ending) (w' : World) : Prop :=
  ∃ v : Value, e = .returned v ∧ Own 3 1 icell w' W0.heap.size v (inL (LoopIn bl h) bl.length) ∧ Below W0.heap.size W0 w'
set_option maxRecDepth 20000 in
set_option maxHeartbeats 16000000 in
theorem body36 {W0 w : World} {bl : List Bl} {rg B : Nat} {vr : List Value} (hP : PM W0 B rg vr (rpF bl)) (hbl : bl.length ≤ 4096) {h : Nat} (hh : h < bl.length) {v : Value} {l : List Nat} (hw : Below W0.heap.size W0 w) (hO : Own 3 1 icell w W0.heap.size v (ints l)) (hl : l.length ≤ bl.length + 1) (hb : ∀ p, p ∈ l ↔ BackE bl h p) :
    Calls Try.prog 36 #[.slice (some ⟨rg, 0, none⟩) bl.length bl.length, .int .i64 (h : Nat), v] w (BdR bl h W0) := by
  have hrl : (rpF bl).length = bl.length := by unfold rpF; rw [List.length_map, predsF_len]
  have HRD : Hid (∀ W, Below W0.heap.size W0 W → ∀ x, x < bl.length → ∃ ao cap pn, W.cell? ⟨rg, x, none⟩ = some (.slice ao (ints pn).length cap) ∧ Src icell W (.slice ao (ints pn).length cap) (ints pn) ∧ pn.length ≤ bl.length + 1 ∧ ∀ y, y ∈ pn ↔ y < bl.length ∧ (x : Int) ∈ succN bl y ∧ WayB bl y) := fun W hW x hx => by
    obtain ⟨ao, cap, _, hc, hs⟩ := (hP.on hW).read (k := x) (by omega)
    have epl : (rpF bl).getD x [] = (rpF bl)[x] := by simp [hrl, hx]
    have hmem : ∀ y, y ∈ (rpF bl)[x] ↔ ∃ m : Nat, m < bl.length ∧ y = m ∧ (x : Int) ∈ succN bl m ∧ reN bl m = true := fun y => by
      rw [← epl]
      exact rpF_mem bl hx
    have hpl : (rpF bl)[x].length ≤ bl.length + 1 := by
      have h1 : x < (predsF bl).length := by rw [predsF_len]; exact hx
      have h2 := predsF_bound bl (List.getElem_mem h1)
      have e : (rpF bl)[x] = keepF (reN bl) ((predsF bl)[x]) := by unfold rpF; simp
      rw [e]
      have h3 := keepF_len (reN bl) ((predsF bl)[x])
      omega
    have hex : ∃ pn, (rpF bl)[x] = ints pn := by
      have key : ∀ L : List Int, (∀ y ∈ L, ∃ m : Nat, y = m) → ∃ pn, L = ints pn := fun L => by
        induction L with
        | nil => exact fun _ => ⟨[], rfl⟩
        | cons y L ih =>
          intro hy
          obtain ⟨m, rfl⟩ := hy y (by simp)
          obtain ⟨pn, rfl⟩ := ih (fun z hz => hy z (by simp [hz]))
          exact ⟨m :: pn, rfl⟩
      exact key _ (fun y hy => by
        obtain ⟨m, _, e, _⟩ := (hmem y).1 hy
        exact ⟨m, e⟩)
    obtain ⟨pn, epn⟩ := hex
    rw [epn] at hc hs hmem hpl
    refine ⟨ao, cap, pn, hc, hs, by rw [ints_len] at hpl; exact hpl, fun y => ?_⟩
    have h1 := hmem (y : Int)
    have h2 : (y : Int) ∈ ints pn ↔ y ∈ pn := by
      unfold ints
      rw [List.mem_map]
      constructor
      · rintro ⟨z, hz, e⟩
        obtain rfl : z = y := by omega
        exact hz
      · exact fun hz => ⟨y, hz, rfl⟩
    rw [← h2, h1]
    constructor
    · rintro ⟨m, p1, p2, p3, p4⟩
      obtain rfl : y = m := by omega
      exact ⟨p1, p3, (reach_way (by omega)).1 p4⟩
    · rintro ⟨p1, p3, p4⟩
      exact ⟨y, p1, rfl, p3, (reach_way (by omega)).2 p4⟩
  obtain ⟨w1, hm1, hR1, hb1, hs1⟩ := make_bools w (n := bl.length) (by unfold big; omega)
  have hO1 := (Kept.of_below (S := fun _ => False) hb1).owns hO (fun _ _ e => e)
  have hW1 := below_on hw hb1 hw.size
  have hI : BoI bl h (Dfs.upd (fun _ => false) h true) l := by
    refine ⟨fun x hx _ => ?_, fun x hx => ⟨((hb x).1 hx).1, .back ((hb x).1 hx)⟩, Dfs.upd_same _ _ _, fun p hp => .inr ((hb p).2 hp), fun b y h1 h2 h3 => ?_⟩
    · by_cases e : x = h
      · subst e; exact .head
      · rw [Dfs.upd_ne _ _ e] at hx; cases hx
    · rw [Dfs.upd_ne _ _ h3] at h1; cases h1
  have HI := hid' hI
  have HR1 := hid' hR1
  have HO1 := hid' hO1
  have HW1 := hid' hW1
  have hgW : W0.heap.size ≤ w.heap.size := hw.size
  have hcell := hR1.cell hh
  have hfro := hR1.fro h
  clear hP hI hR1 hO1 hW1 hO hb hrl
  go_enter Try.func36, Try.ntmps36
  go_upto_region 3 with fail
  have hrow2 := HR1.out.set h true
  have K2 := setK w1 w.heap.size h (.bool true)
  have hO2 : Own 3 1 icell (w1.setCell ⟨w.heap.size, h, none⟩ (.bool true)) W0.heap.size v (ints l) := by
    obtain ⟨c, hc⟩ := HR1.out.ty
    exact own_ty HO1.out hc (by decide) K2
  have hW2 := HW1.out.trans (K2.below HW1.out.size (fun q e => by subst e; exact hgW))
  have HROW := hid' hrow2
  have HO2 := hid' hO2
  have HW2 := hid' hW2
  clear hrow2 K2 hO2 hW2 hm1 hcell hfro hb1
  generalize w1.setCell ⟨w.heap.size, h, none⟩ (.bool true) = w2 at *
  generalize hg : w.heap.size = g at *
  go_wp2_with fail
  go_loopw [2] (fun wv wr => ∃ (st : List Nat) (F : Nat → Bool) (ou : Value), ou = wv ∧ Own 3 1 icell wr W0.heap.size ou (ints st) ∧ RowB wr g bl.length F ∧ BoI bl h F st ∧ unm F bl.length * (bl.length + 2) + st.length ≤ bl.length * (bl.length + 2) + bl.length + 1 ∧ Below W0.heap.size W0 wr) (fun wv wr => unm (cellB wr g) bl.length * (bl.length + 2) + lenV wv)
  case atStart =>
    refine ⟨l, _, _, rfl, HO2.out, HROW.out, HI.out, ?_, HW2.out⟩
    have h1 := unm_less (F := fun _ => false) hh rfl
    rw [unm_none] at h1
    have h2 : unm (Dfs.upd (fun _ => false) h true) bl.length * (bl.length + 2) ≤ bl.length * (bl.length + 2) := Nat.mul_le_mul_right _ (by omega)
    omega
  case round =>
    obtain ⟨st, F, ou, rfl, hO, hR, hI, hms, hB⟩ := hrel
    have HO := hid' hO
    have HR := hid' hR
    have HI := hid' hI
    have HB := hid' hB
    have HMS := hid' hms
    clear hO hR hI hB hms
    have HU : Hid (unm (cellB wr g) bl.length = unm F bl.length) := unm_congr fun x hx => cellB_is HR.out hx
    rcases List.eq_nil_or_concat st with hnil | ⟨s2, x, hst⟩
    · subst hnil
      obtain ⟨ao, cap, eou, hcap⟩ := own_len HO.out
      rw [ints_len, List.length_nil] at eou
      subst eou
      go_wp2_with fail
      go_loopw [9, 48] (fun lv iv wr2 => ∃ (i : Nat) (ou : Value), ou = lv ∧ i ≤ bl.length ∧ iv = .int .i64 i ∧ Own 3 1 icell wr2 W0.heap.size ou (inL (fun x => F x = true) i) ∧ RowB wr2 g bl.length F ∧ Below W0.heap.size W0 wr2) (fun _ iv _ => bl.length - (intOf iv).toNat)
      case atStart => exact ⟨0, _, rfl, Nat.zero_le _, rfl, World.ownsRow_nil _ _ _ _, HR.out, HB.out⟩
      case round =>
        obtain ⟨i, ou, rfl, hi, rfl, hO, hR, hB⟩ := hrel
        have HO := hid' hO
        have HR := hid' hR
        have HB := hid' hB
        clear hO hR hB
        by_cases hil : i < bl.length
        · have qc := HR.out.cell hil
          cases hF : F i with
          | false =>
            rw [hF] at qc
            have HN : Hid (inL (fun x => F x = true) (i + 1) = inL (fun x => F x = true) i) := inL_no (P := fun x => F x = true) (fun e => by rw [hF] at e; cases e)
            clear hF
            go_wp2_with fail
            go_roundw
            case rel => exact ⟨i + 1, _, rfl, by omega, by go_num, by rw [HN.out]; exact HO.out, HR.out, HB.out⟩
            case measure => simp [intOf]; omega
          | true =>
            rw [hF] at qc
            have HN : Hid (inL (fun x => F x = true) (i + 1) = inL (fun x => F x = true) i ++ [(i : Int)]) := inL_yes (P := fun x => F x = true) hF
            have hll := inL_len (fun x => F x = true) i
            obtain ⟨wq, ewq⟩ : ∃ wq, wq = wr.alloc (.cells #[.int .i64 (i : Int)] 3) := ⟨_, rfl⟩
            have hbq : Below wr.heap.size wr wq := by rw [ewq]; exact below1 _ _
            have hqq : wq.heap[wr.heap.size]? = some (.cells #[.int .i64 (i : Int)] 3 (0, 0)) := by rw [ewq]; exact heap_alloc_new _ _
            have hBq := below_on HB.out hbq HB.out.size
            obtain ⟨b7, cap7, w7, hr7, hO7, hB7, hK7⟩ := app_int ((Kept.of_below (S := fun _ => False) hbq).owns HO.out (fun _ _ e => e)) hBq.size hqq (by omega)
            rw [← HN.out] at hO7
            have hR7 : RowB w7 g bl.length F := (HR.out.on hbq).kept hK7 (fun e => by
              obtain ⟨c, hc3⟩ := own_block HO.out e
              obtain ⟨c', hc4⟩ := HR.out.ty
              rw [hc4] at hc3
              injection hc3 with hc3
              injection hc3 with _ h2
              cases h2)
            have HR7 := hid' (hr7 26)
            rw [ewq] at HR7
            have HO7 := hid' hO7
            have HRW := hid' hR7
            have HB7 := hid' (hBq.trans hB7)
            clear hbq hqq hBq hr7 hO7 hB7 hK7 ewq hR7 hF
            generalize (inL (fun x => F x = true) i).length = fl at *
            go_wp2_with (at_builtin; refine of_mark ?_)
            unfold Mark
            refine wpList_append_run rfl (.tmp 54) (.tmp 56) rfl ou (.slice (some ⟨wr.heap.size, 0, none⟩) 1 1) _ (by rfl) (by rfl) HR7.out ?_
            go_wp2_with fail
            go_roundw
            case rel => exact ⟨i + 1, _, rfl, by omega, by go_num, HO7.out, HRW.out, HB7.out⟩
            case measure => simp [intOf]; omega
        · have e : i = bl.length := by omega
          subst e
          have HFN : Hid (inL (fun x => F x = true) bl.length = inL (LoopIn bl h) bl.length) := inL_congr fun x hx => HI.out.done hx hh
          have hfin := HO.out
          rw [HFN.out] at hfin
          go_wp2_with fail
          go_ret
          exact ⟨ou, rfl, hfin, HB.out⟩
    · have hst : st = s2 ++ [x] := by rw [hst]; simp
      subst hst
      have hO := HO.out
      have hle : (ints (s2 ++ [x])).length = s2.length + 1 := by rw [ints_len, List.length_append, List.length_singleton]
      unfold Own at hO
      rw [hle] at hO
      obtain ⟨sb, sc, rfl⟩ := own_form hO
      have hcap : s2.length + 1 ≤ sc := by
        obtain ⟨ao, cp, e, hc⟩ := own_len hO
        injection e with _ _ e
        omega
      obtain ⟨hxn, hxl⟩ := HI.out.wait x (List.mem_append.2 (.inr (by simp)))
      have hints : ints (s2 ++ [x]) = ints s2 ++ [(x : Int)] := (ints_snoc s2 x).symm
      have sTop : wr.cell? ⟨sb, s2.length, none⟩ = some (.int .i64 x) := by
        refine (World.ownsRow.cellAt hO s2.length (by omega)).trans ?_
        rw [hints, flat_i]
        simp [ints]
      have hOp : Own 3 1 icell wr W0.heap.size (.slice (some ⟨sb, 0, none⟩) s2.length sc) (ints s2) := by
        have h1 := HO.out
        rw [hints] at h1
        have h2 := own_pop (st := ints s2) (by rw [ints_len]; exact h1)
        rw [ints_len] at h2
        exact h2
      have HOP := hid' hOp
      have qc := HR.out.cell hxn
      have hms2 := HMS.out
      rw [List.length_append, List.length_singleton] at hms2
      have HMS2 := hid' hms2
      have hs2b : s2.length ≤ 16789506 := by
        have h1 : bl.length * (bl.length + 2) ≤ 4096 * 4098 := Nat.mul_le_mul hbl (by omega)
        omega
      clear hO hle hOp hms2 HMS hints
      cases hF : F x with
      | true =>
        rw [hF] at qc
        have HN := hid' (HI.out.old hF)
        clear hF
        go_wp2_with fail
        go_roundw
        case rel => exact ⟨s2, F, _, rfl, HOP.out, HR.out, HN.out, by have := HMS2.out; omega, HB.out⟩
        case measure => simp [lenV]
      | false =>
        rw [hF] at qc
        have qf := HR.out.fro x
        obtain ⟨w6, ew6⟩ : ∃ w6, w6 = wr.setCell ⟨g, x, none⟩ (.bool true) := ⟨_, rfl⟩
        have K6 : Kept (fun q => q = g) wr w6 := by rw [ew6]; exact setK wr g x _
        have hR6 : RowB w6 g bl.length (Dfs.upd F x true) := by rw [ew6]; exact HR.out.set x true
        have hO6 : Own 3 1 icell w6 W0.heap.size (.slice (some ⟨sb, 0, none⟩) s2.length sc) (ints s2) := by
          obtain ⟨c, hc⟩ := HR.out.ty
          exact own_ty HOP.out hc (by decide) K6
        have hB6 : Below W0.heap.size W0 w6 := HB.out.trans (K6.below HB.out.size (fun q e => by subst e; exact hgW))
        obtain ⟨ao', cap', pn, hc6, hs6, hpn, hmem⟩ := HRD.out w6 hB6 x hxn
        obtain ⟨v7, w7, hr7, hO7, hg7, hl7⟩ := append_own2 (f := icell) (st := 26) (et := 3) (bytes := 8) ic1 (l := ints s2) (m := ints pn) (base := W0.heap.size) (w := w6) (v := .slice (some ⟨sb, 0, none⟩) s2.length sc) (x := .slice ao' (ints pn).length cap') (fun y hy u hu => by
          obtain rfl := List.mem_singleton.1 hu
          rfl) Try.underlying26 info3 rfl (by decide) hO6 hs6 (by rw [ints_len, ints_len]; omega) (by rw [ints_len, ints_len]; unfold maxLen; omega) hB6.size 26
        have e7 : ints s2 ++ ints pn = ints (s2 ++ pn) := by simp [ints]
        rw [e7] at hO7
        have K7 := grown_kept hg7
        have hR7 : RowB w7 g bl.length (Dfs.upd F x true) := hR6.kept K7 (fun e => by
          obtain ⟨c, hc3⟩ := own_block hO6 e
          obtain ⟨c', hc4⟩ := hR6.ty
          rw [hc4] at hc3
          injection hc3 with hc3
          injection hc3 with _ h2
          cases h2)
        have hB7 : Below W0.heap.size W0 w7 := hB6.trans (K7.below hB6.size (fun q e => (World.ownsRow.lt hO6 q e).1))
        have hless := unm_less hxn hF
        have hmul : unm F bl.length * (bl.length + 2) = unm (Dfs.upd F x true) bl.length * (bl.length + 2) + (bl.length + 2) := by rw [← hless, Nat.succ_mul]
        obtain ⟨a7, c7, ev7, _⟩ := own_len hO7
        rw [ints_len, List.length_append] at ev7
        subst ev7
        rw [ints_len] at hr7 hc6
        have HU7 : Hid (unm (cellB w7 g) bl.length = unm (Dfs.upd F x true) bl.length) := unm_congr fun y hy => cellB_is hR7 hy
        have HNI := hid' (HI.out.new hF hmem)
        have HR7 := hid' hr7
        have HOW := hid' hO7
        have HRW := hid' hR7
        have HB7 := hid' hB7
        have HMUL := hid' hmul
        have hq6 := hR6.cell hxn
        rw [ew6] at hc6
        rw [ew6] at HR7
        clear hF K6 hR6 hO6 hB6 hs6 hmem hr7 hO7 hg7 hl7 e7 K7 hR7 hB7 hless hmul hq6 ew6
        go_wp2_with (at_builtin; refine of_mark ?_)
        unfold Mark
        refine wpList_append_run rfl (.tmp 40) (.tmp 44) rfl (.slice (some ⟨sb, 0, none⟩) s2.length sc) (.slice ao' pn.length cap') _ (by rfl) (by rfl) HR7.out ?_
        go_wp2_with fail
        go_roundw
        case rel => exact ⟨s2 ++ pn, _, _, rfl, HOW.out, HRW.out, HNI.out, by have := HMS2.out; have := HMUL.out; rw [List.length_append]; omega, HB7.out⟩
        case measure =>
          rw [HU7.out, HU.out, HMUL.out]
          show _ + (s2.length + pn.length) < _ + (s2.length + 1)
          omega
end
end Go.Proofs.Ytgkaeoieclegjaa
