/- told, nextByte, pop, phis, resume. -/
import Derived.Test.YtiehlkhpblldaaaH05
set_option linter.unusedVariables false
set_option linter.unusedSimpArgs false
set_option maxRecDepth 20000
set_option maxHeartbeats 8000000
namespace Go.Proofs.Ytiehlkhpblldaaa
open Go.RowKit Go.Maps
section
variable {C : Cst} {W0 W W' : World} {r : Nat} {s s' : St} {x : Vs} {t : Tp}

def toldR (l : List Rg) (i : Int) (no : Int) : Int := if i = -1 then 0 else getR l i.toNat no
theorem told48 {c : Cl} {l : List Rg} (h : RunM C W0 r W s x t) (T : Top C s x t c l) {i : Int} (hi : i = -1 ∨ (0 ≤ i ∧ i < l.length)) :
    Calls Try.prog 48 #[.pointer (some ⟨r, 0, none⟩), .int .i64 i] W fun e w' => e = .returned (.int .u32 (toldR l i c.no)) ∧ Below W.heap.size W w' := by
  unfold toldR
  by_cases g : i = -1
  · rw [if_pos g]
    subst g
    clear h T hi
    go_enter Try.func48, Try.ntmps48
    go_wp2
    go_ret
    exact ⟨rfl, Below.refl _ _⟩
  · rw [if_neg g]
    obtain ⟨k, rfl⟩ : ∃ k : Nat, i = k := ⟨i.toNat, by omega⟩
    have h46 := get46 h T (i := k) (by omega)
    rw [Int.toNat_natCast]
    have g' : ((k : Int) == -1) = false := by simp [g]
    clear h T hi
    go_enter Try.func48, Try.ntmps48
    go_wp2_with (go_at_call 46; refine h46.mono ?_; rintro e1 w1 ⟨rfl, hb1⟩)
    go_ret
    exact ⟨rfl, hb1⟩

def nextV (C : Cst) (s : St) : Int := if h : s.used < C.input.size then ((C.input[s.used]'h).toNat : Int) else 4294967295
def nextF (C : Cst) (s : St) : St := if s.used < C.input.size then { s with used := s.used + 1 } else s
def popF (s : St) (n : Int) : St := { s with low := s.low + n }
theorem pop67 (h : RunM C W0 r W s x t) {n : Int} (hn : 0 ≤ n ∧ n ≤ 8388608) (hl : -8388608 ≤ s.low ∧ s.low ≤ 8388608) :
    Calls Try.prog 67 #[.pointer (some ⟨r, 6, none⟩), .int .i64 n] W fun e w' => e = .returned (.tuple #[]) ∧ RunM C W0 r w' (popF s n) x t := by
  have H := hid' h
  have c8 : W.cell? ⟨r, 8, none⟩ = some (.int .i64 s.low) := h.cell 8
  have fr := h.fro
  have hw : IntKind.i64.wrap (s.low + n) = s.low + n := by simp [IntKind.wrap, IntKind.bits, IntKind.signed]; omega
  clear h
  go_enter Try.func67, Try.ntmps67
  go_wp2
  go_end0
  exact ⟨rfl, H.out.put 8 _ rfl rfl⟩

/-- How many phis it begins with. -/
def phN : List In → Nat
  | [] => 0
  | x :: l => if x.op = 12 then phN l + 1 else 0
theorem phN_le : ∀ l : List In, phN l ≤ l.length
  | [] => Nat.le_refl _
  | x :: l => by
    unfold phN
    split
    · have := phN_le l; simp; omega
    · simp
theorem phN_yes : ∀ (l : List In) (k : Nat) (h : k < l.length), k < phN l → l[k].op = 12
  | x :: l, 0, _, h => by
    unfold phN at h
    split at h
    · assumption
    · omega
  | x :: l, k + 1, h1, h => by
    unfold phN at h
    split at h
    · exact phN_yes l k (by simpa using h1) (by omega)
    · omega
theorem phN_is : ∀ (l : List In) (k : Nat), k ≤ l.length → (∀ j (h : j < l.length), j < k → l[j].op = 12) → (∀ h : k < l.length, l[k].op ≠ 12) → k = phN l
  | [], k, h, _, _ => by simp at h; simp [phN, h]
  | x :: l, 0, _, _, h => by
    have := h (by simp)
    simp at this
    simp [phN, this]
  | x :: l, k + 1, h1, h2, h3 => by
    have h0 := h2 0 (by simp) (by omega)
    simp at h0
    have := phN_is l k (by simpa using h1) (fun j hj hk => by have := h2 (j + 1) (by simp; omega) (by omega); simpa using this) (fun hk => by have := h3 (by simp; omega); simpa using this)
    simp [phN, h0, ← this]
theorem phis44 {v : Value} {l : List In} (h : Src In.cells W v l) (hl : l.length * 88 ≤ big) :
    Calls Try.prog 44 #[v] W fun e w' => e = .returned (.int .i64 (phN l)) ∧ Below W.heap.size W w' := by
  obtain ⟨ao, cap, rfl, hf⟩ := h.form in7
  have HF := hid' hf
  unfold big at hl
  clear hf h
  go_enter Try.func44, Try.ntmps44
  go_wp2
  go_loopw [3] (fun i wr => ∃ k : Nat, k ≤ l.length ∧ i = .int .i64 k ∧ (∀ j (h : j < l.length), j < k → l[j].op = 12) ∧ Below W.heap.size W wr) (fun i _ => l.length - (intOf i).toNat)
  case atStart => exact ⟨0, Nat.zero_le _, rfl, fun j _ hj => by omega, Below.refl _ _⟩
  case round =>
    obtain ⟨k, hk, rfl, hok, hbw⟩ := hrel
    have HOK := hid' hok
    have HB := hid' hbw
    clear hok hbw
    by_cases hlt : k < l.length
    · obtain ⟨b, o, rfl, hb, hc, hx⟩ := HF.out k hlt
      have c0 := (in_cells (hx wr HB.out)).1
      clear hx
      by_cases g : l[k].op = 12
      · have HN : Hid (∀ j (h : j < l.length), j < k + 1 → l[j].op = 12) := fun j h hj => by
          by_cases e : j = k
          · subst e; exact g
          · exact HOK.out j h (by omega)
        rw [g] at c0
        clear g
        go_wp2
        go_roundw
        case rel => exact ⟨k + 1, by omega, by go_num, HN.out, HB.out⟩
        case measure => simp [intOf]; omega
      · have HN : Hid (k = phN l) := phN_is l k hk HOK.out (fun _ => g)
        have g' : (l[k].op == 12) = false := by simp [g]
        go_wp2
        go_ret
        exact ⟨congrArg (fun n : Nat => Ending.returned (.int .i64 (n : Int))) HN.out, HB.out⟩
    · have e : k = l.length := by omega
      have HN : Hid (k = phN l) := phN_is l k hk HOK.out (fun h => absurd h hlt)
      subst e
      go_wp2
      go_ret
      exact ⟨congrArg (fun n : Nat => Ending.returned (.int .i64 (n : Int))) HN.out, HB.out⟩

theorem own_form2 {W : World} {B : Nat} {e : TypeId} {z n : Nat} {v : Value} {xs : List Value} (h : W.ownsRow B e z v (n + 1) xs) : ∃ b cap, v = .slice (some ⟨b, 0, none⟩) (n + 1) cap ∧ n + 1 ≤ cap := by
  rcases h.2 with ⟨_, e⟩ | ⟨g, cap, cur, e, _, _, hc, _⟩
  · cases e
  · exact ⟨g, cap, e, hc⟩
theorem funcs_form (h : Pg.ok W0 C.p) {k : Nat} (hk : k < C.p.funcs.length) : ∃ fb fo cap, C.p.fv = .slice (some ⟨fb, fo, none⟩) C.p.funcs.length cap ∧ fb < W0.heap.size ∧ C.p.funcs.length ≤ cap ∧ ∀ w', Below W0.heap.size W0 w' → ∀ j (hj : j < C.p.funcs.length), ∀ c, c < 5 → w'.cell? ⟨fb, fo + j * 5 + c, none⟩ = (Fn.cells C.p.funcs[j])[c]? := by
  obtain ⟨ao, cap, e, hf⟩ := h.f.form fn5
  obtain ⟨b, o, rfl, hb, hc, _⟩ := hf k hk
  refine ⟨b, o, cap, e, hb, hc, fun w' hw j hj c hcc => ?_⟩
  obtain ⟨b', o', e', _, _, hx⟩ := hf j hj
  injection e' with e'
  injection e' with e1 e2
  subst e1 e2
  exact hx w' hw c hcc
theorem drew1 (W : World) : Below W.heap.size W W.drew := ⟨rfl, rfl, rfl, Nat.le_refl _, fun _ _ => rfl⟩
theorem RunM.drew (h : RunM C W0 r W s x t) : RunM C W0 r W.drew s x t := h.on (drew1 W)
theorem resFacts {c : Cl} {l : List Rg} {n m cb ccap bb bcap fb fo fcap : Nat} (h : RunM C W0 r W s x t) (hc : s.calls.getLast? = some c) (hn : s.calls.length = n + 1) (hm : s.banks.length = m + 1) (hb : s.banks[c.fn]? = some (some l)) (ef : C.p.fv = .slice (some ⟨fb, fo, none⟩) C.p.funcs.length fcap) (ecv : x.cv = .slice (some ⟨cb, 0, none⟩) (n + 1) ccap) (ebv : x.bv = .slice (some ⟨bb, 0, none⟩) (m + 1) bcap) :
    W.cell? ⟨r, 0, none⟩ = some (.slice (some ⟨fb, fo, none⟩) C.p.funcs.length fcap) ∧ W.cell? ⟨r, 4, none⟩ = some (.slice (some ⟨bb, 0, none⟩) (m + 1) bcap) ∧ W.cell? ⟨r, 9, none⟩ = some (.slice (some ⟨cb, 0, none⟩) (n + 1) ccap) ∧ W.cell? ⟨r, 11, none⟩ = some t.t ∧ W.cell? ⟨r, 12, none⟩ = some t.f ∧ W.cell? ⟨r, 13, none⟩ = some t.b ∧ (∀ j, W.frozen? ⟨r, j, none⟩ = false) ∧
    W.cell? ⟨cb, n * 6 + 1, none⟩ = some (.int .i64 c.fn) ∧ W.cell? ⟨bb, c.fn, none⟩ = some (.slice (some ⟨x.bb c.fn, 0, none⟩) l.length l.length) := by
  have hcs := h.rows.cs
  rw [hn, ecv] at hcs
  have hcell : ∀ j, j < 6 → W.cell? ⟨cb, n * 6 + j, none⟩ = (Cl.cells c)[j]? := fun j hj => by
    rw [List.getLast?_eq_getElem?, hn] at hc
    obtain ⟨hlt, hce⟩ := List.getElem?_eq_some_iff.1 hc
    rw [World.ownsRow.cellAt hcs _ (by omega), flat_get cl6 _ _ _ (by omega) hj]
    simp only [Nat.add_sub_cancel] at hce
    rw [hce]
  have hbs := h.rows.bs
  obtain ⟨hbl, hbe⟩ := List.getElem?_eq_some_iff.1 hb
  rw [hm, ebv] at hbs
  refine ⟨by rw [← ef]; exact h.cell 0, by rw [← ebv]; exact h.cell 4, by rw [← ecv]; exact h.cell 9, h.cell 11, h.cell 12, h.cell 13, h.fro, hcell 1 (by omega), ?_⟩
  rw [World.ownsRow.cellAt hbs _ (by omega), List.getElem?_mapIdx, hb]
  rfl
theorem resume25 {c : Cl} {l : List Rg} (h : RunM C W0 r W s x t) (hc : s.calls.getLast? = some c) (hf : c.fn < C.p.funcs.length) (hb : s.banks[c.fn]? = some (some l)) (hl : s.calls.length ≤ 140737488355328) :
    Calls Try.prog 25 #[.pointer (some ⟨r, 0, none⟩)] W fun e w' => e = .returned (.tuple #[]) ∧ ∃ t', RunM C W0 r w' s x t' ∧ Top C s x t' c l := by
  have H := hid' h
  have HC := hid' hc
  have HBK := hid' hb
  obtain ⟨fb, fo, fcap, ef, hfb, hfc, _⟩ := funcs_form h.rows.pg hf
  have hpos : 0 < s.calls.length := by
    cases hs : s.calls with
    | nil => rw [hs] at hc; cases hc
    | cons a l => simp
  obtain ⟨n, hn⟩ : ∃ n, s.calls.length = n + 1 := ⟨s.calls.length - 1, by omega⟩
  have hcs := h.rows.cs
  rw [hn] at hcs
  obtain ⟨cb, ccap, ecv, hcc⟩ := own_form2 hcs
  have hbs := h.rows.bs
  obtain ⟨hbl, hbe⟩ := List.getElem?_eq_some_iff.1 hb
  obtain ⟨m, hm⟩ : ∃ m, s.banks.length = m + 1 := ⟨s.banks.length - 1, by omega⟩
  rw [hm] at hbs
  obtain ⟨bb, bcap, ebv, hbc⟩ := own_form2 hbs
  have HF : Hid (∀ W t, RunM C W0 r W s x t → _) := fun W t h => resFacts h hc hn hm hb ef ecv ebv
  obtain ⟨c0, c4, c9, c11, c12, c13, fr, k1, hbk⟩ := HF.out _ _ h
  have hfi : (c.fn : Int) < C.p.funcs.length := by omega
  have hbi : (c.fn : Int) < (m : Int) + 1 := by omega
  have hnl : n < 140737488355328 := by omega
  have HEN := hid' hn
  have HEC := hid' ecv
  have HEF := hid' ef
  clear h hcs hbs hc hb hbe hn ecv ebv ef hm hpos
  go_enter Try.func25, Try.ntmps25
  go_wp2
  go_region
  have H1 : Hid (RunM C W0 r ((W.setCell ⟨r, 11, none⟩ (.pointer (some ⟨cb, n * 6, none⟩))).drew) s x ⟨.pointer (some ⟨cb, n * 6, none⟩), t.f, t.b⟩) := (H.out.put (s' := s) (t' := ⟨.pointer (some ⟨cb, n * 6, none⟩), t.f, t.b⟩) 11 (.pointer (some ⟨cb, n * 6, none⟩)) rfl rfl).drew
  clear c0 c4 c9 c11 c12 c13 fr k1 hbk
  generalize (W.setCell ⟨r, 11, none⟩ (.pointer (some ⟨cb, n * 6, none⟩))).drew = W1 at *
  obtain ⟨c0, c4, c9, c11, c12, c13, fr, k1, hbk⟩ := HF.out _ _ H1.out
  dsimp only at c11 c12 c13
  go_wp2
  go_region
  have H2 : Hid (RunM C W0 r ((W1.setCell ⟨r, 12, none⟩ (.pointer (some ⟨fb, fo + c.fn * 5, none⟩))).drew) s x ⟨.pointer (some ⟨cb, n * 6, none⟩), .pointer (some ⟨fb, fo + c.fn * 5, none⟩), t.b⟩) := (H1.out.put (s' := s) (t' := ⟨.pointer (some ⟨cb, n * 6, none⟩), .pointer (some ⟨fb, fo + c.fn * 5, none⟩), t.b⟩) 12 (.pointer (some ⟨fb, fo + c.fn * 5, none⟩)) rfl rfl).drew
  clear c0 c4 c9 c11 c12 c13 fr k1 hbk
  generalize (W1.setCell ⟨r, 12, none⟩ (.pointer (some ⟨fb, fo + c.fn * 5, none⟩))).drew = W2 at *
  obtain ⟨c0, c4, c9, c11, c12, c13, fr, k1, hbk⟩ := HF.out _ _ H2.out
  dsimp only at c11 c12 c13
  go_wp2
  go_region
  go_wp2
  go_end0
  refine ⟨rfl, ⟨.pointer (some ⟨cb, n * 6, none⟩), .pointer (some ⟨fb, fo + c.fn * 5, none⟩), .slice (some ⟨x.bb c.fn, 0, none⟩) l.length l.length⟩, (H2.out.put (s' := s) (t' := ⟨.pointer (some ⟨cb, n * 6, none⟩), .pointer (some ⟨fb, fo + c.fn * 5, none⟩), .slice (some ⟨x.bb c.fn, 0, none⟩) l.length l.length⟩) 13 (.slice (some ⟨x.bb c.fn, 0, none⟩) l.length l.length) rfl rfl).drew, ?_⟩
  exact ⟨HC.out, ⟨cb, ccap, by rw [HEN.out]; exact HEC.out, by rw [HEN.out]; rfl⟩, hf, ⟨fb, fo, fcap, HEF.out, rfl⟩, HBK.out, rfl⟩
end
end Go.Proofs.Ytiehlkhpblldaaa
