/- What the lexer tells, as the parser has it. -/
import Derived.Test.YtjeioblhpfogfaaGreatDoorX25
import Derived.Test.YtjeioblhpfogfaaGreatDoorX29
import Derived.Test.YtjeioblhpfogfaaGreatDoorX30
import Derived.Test.YtjeioblhpfogfaaGreatDoorX47
import Derived.Test.YtjeioblhpfogfaaGreatDoorX48
import Derived.Test.YtjeioblhpfogfaaGreatDoorX49
set_option linter.unusedVariables false
set_option linter.unusedSimpArgs false
set_option maxRecDepth 20000
set_option maxHeartbeats 8000000
namespace Go.Proofs.YtjeioblhpfogfaaGreatDoor
open Go.RowKit
open Go.Proofs.YtjeioblhpfogfaaGreatDoorLx (TT Tok allF allAt allG nextF readF next_ok numF numAt numEnd nameF charF textF markF words resv isM marksL cellsT cellsT1 lst strL)

/-- A token of the lexer, as the parser has it. -/
def toTk (x : TT) : Tk := ⟨((x.1.kind : Nat) : Int), strL x.1.text, ((x.1.num : Nat) : Int), x.1.uns, ((x.2.1 : Nat) : Int), ((x.2.2 : Nat) : Int)⟩
theorem cells_toTk : ∀ (l : List TT), cellsT l = tksC (l.map toTk)
  | [] => rfl
  | x :: r => by
    have e1 : cellsT (x :: r) = cellsT1 x ++ cellsT r := rfl
    have e2 : tksC ((x :: r).map toTk) = tkC (toTk x) ++ tksC (r.map toTk) := rfl
    rw [e1, e2, cells_toTk r]
    rfl
/-- What a token is. -/
def PT (t : Tok) : Prop := 1 ≤ t.kind ∧ t.kind ≤ 7 ∧ (t.kind = 3 → resv t.text = true) ∧ (t.kind = 4 → isM t.text = true) ∧ (t.kind = 1 → t.text = [])
theorem numEnd_pt {v n : Nat} {l : List UInt8} {t : Tok} {m : Nat} (h : numEnd v n l = some (t, m)) : PT t ∧ t.text = [] := by
  have key : t.kind = 5 ∧ t.text = [] := by
    unfold numEnd at h
    by_cases hu : Go.Proofs.YtjeioblhpfogfaaGreatDoorLx.headIs Go.Proofs.YtjeioblhpfogfaaGreatDoorLx.isU (l.drop n) = true
    · rw [if_pos hu] at h
      dsimp only at h
      split at h
      · cases h
      · simp at h; obtain ⟨rfl, rfl⟩ := h; exact ⟨rfl, rfl⟩
    · rw [if_neg hu] at h
      dsimp only at h
      split at h
      · cases h
      · simp at h; obtain ⟨rfl, rfl⟩ := h; exact ⟨rfl, rfl⟩
  obtain ⟨h1, h2⟩ := key
  exact ⟨⟨by omega, by omega, by omega, by omega, fun _ => h2⟩, h2⟩
theorem numAt_pt {b f : Nat} {l : List UInt8} {t : Tok} {m : Nat} (h : numAt b f l = some (t, m)) : PT t ∧ t.text = [] := by
  unfold numAt at h
  simp only at h
  split at h
  · cases h
  · exact numEnd_pt h
theorem readF_pt {l : List UInt8} {t : Tok} {n : Nat} (h : readF l = some (t, n)) : PT t ∧ t.text.length ≤ l.length := by
  match l, h with
  | [], h =>
    simp [readF] at h
    obtain ⟨rfl, rfl⟩ := h
    refine ⟨⟨?_, ?_, ?_, ?_, ?_⟩, ?_⟩ <;> simp
  | c :: r, h =>
    simp only [readF] at h
    split at h
    · unfold numF at h
      split at h
      · have := numAt_pt h
        exact ⟨this.1, by rw [this.2]; simp⟩
      · have := numAt_pt h
        exact ⟨this.1, by rw [this.2]; simp⟩
    · split at h
      · simp only [nameF, Option.some.injEq, Prod.mk.injEq] at h
        obtain ⟨rfl, rfl⟩ := h
        refine ⟨?_, (List.takeWhile_prefix _).length_le⟩
        dsimp only [PT]
        split
        · rename_i hr
          exact ⟨by omega, by omega, fun _ => hr, fun h => by omega, fun h => by omega⟩
        · exact ⟨by omega, by omega, fun h => by omega, fun h => by omega, fun h => by omega⟩
      · split at h
        · unfold charF at h
          split at h
          · cases h
          · split at h
            · simp only [Option.some.injEq, Prod.mk.injEq] at h
              obtain ⟨rfl, rfl⟩ := h
              refine ⟨⟨?_, ?_, ?_, ?_, ?_⟩, ?_⟩ <;> simp
            · cases h
        · split at h
          · unfold textF at h
            split at h
            · simp only [Option.some.injEq, Prod.mk.injEq] at h
              obtain ⟨rfl, rfl⟩ := h
              have h2 := Go.Proofs.YtjeioblhpfogfaaGreatDoorLx.units_len 34 ((c :: r).drop 1)
              refine ⟨⟨?_, ?_, ?_, ?_, ?_⟩, ?_⟩
              all_goals try simp
              simp only [List.drop_succ_cons, List.drop_zero] at h2
              omega
            · cases h
          · unfold markF at h
            split at h
            · rename_i hm
              simp only [Option.some.injEq, Prod.mk.injEq] at h
              obtain ⟨rfl, rfl⟩ := h
              exact ⟨⟨by simp, by simp, by simp, fun _ => hm, by simp⟩, by rw [List.length_take]; omega⟩
            · split at h
              · rename_i hm
                simp only [Option.some.injEq, Prod.mk.injEq] at h
                obtain ⟨rfl, rfl⟩ := h
                exact ⟨⟨by simp, by simp, by simp, fun _ => hm, by simp⟩, by rw [List.length_take]; omega⟩
              · split at h
                · rename_i hm
                  simp only [Option.some.injEq, Prod.mk.injEq] at h
                  obtain ⟨rfl, rfl⟩ := h
                  exact ⟨⟨by simp, by simp, by simp, fun _ => hm, by simp⟩, by rw [List.length_take]; omega⟩
                · cases h
/-- Tokens to the end. -/
structure Row (N : Nat) (r : List TT) : Prop where
  pos : 0 < r.length
  fin : ∀ i (h : i < r.length), (r[i].1.kind = 1 ↔ i + 1 = r.length)
  pt : ∀ i (h : i < r.length), PT r[i].1
  sz : ∀ i (h : i < r.length), r[i].1.text.length ≤ N
theorem allG_row : ∀ (f : Nat) (l : List UInt8) (k : Nat) (r : List TT), k ≤ l.length → l.length + 1 - k ≤ f → allG f l k = .ok r → Row l.length r ∧ r.length ≤ l.length + 1 - k
  | 0, l, k, r, hk, hf, h => by omega
  | f + 1, l, k, r, hk, hf, h => by
    unfold allG at h
    match hn : nextF (l.drop k) with
    | .error p => rw [hn] at h; cases h
    | .ok (t, a, b) =>
      rw [hn] at h
      dsimp only at h
      have h1 := next_ok hn
      obtain ⟨hg, hab, hb, hk1, hke, hlt, heq, hr⟩ := h1
      have hp := (readF_pt hr).1
      have hz := (readF_pt hr).2
      rw [List.length_drop, List.length_drop] at hz
      rw [List.length_drop] at hb
      split at h
      · rename_i ht
        injection h with h
        subst h
        refine ⟨⟨by simp, fun i hi => ?_, fun i hi => ?_, fun i hi => ?_⟩, by simp; omega⟩
        · obtain rfl : i = 0 := by simpa using hi
          simpa using ht
        · obtain rfl : i = 0 := by simpa using hi
          exact hp
        · obtain rfl : i = 0 := by simpa using hi
          show t.text.length ≤ _
          omega
      · rename_i ht
        have h2 := hlt ht
        match hm : allG f l (k + b) with
        | .error e => rw [hm] at h; cases h
        | .ok r' =>
          rw [hm] at h
          dsimp only at h
          injection h with h
          subst h
          obtain ⟨⟨i1, i2, i3, i4⟩, i5⟩ := allG_row f l (k + b) r' (by omega) (by omega) hm
          refine ⟨⟨by simp, fun i hi => ?_, fun i hi => ?_, fun i hi => ?_⟩, by simp; omega⟩
          · cases i with
            | zero =>
              show t.kind = 1 ↔ _
              simp only [List.length_cons]
              constructor
              · intro e; exact absurd e ht
              · intro e; omega
            | succ i =>
              have := i2 i (by simpa using hi)
              simpa using this
          · cases i with
            | zero => exact hp
            | succ i => simpa using i3 i (by simpa using hi)
          · cases i with
            | zero =>
              show t.text.length ≤ _
              omega
            | succ i => simpa using i4 i (by simpa using hi)
theorem allF_row {l : List UInt8} {r : List TT} (h : allF l = .ok r) : Row l.length r ∧ r.length ≤ l.length + 1 := by
  unfold allF allAt at h
  have := allG_row (l.length + 1 - 0) l 0 r (by omega) (by omega) h
  simpa using this
theorem words_low : ∀ t ∈ words, lowB (strL t) = true := by decide
theorem marks_low : ∀ t ∈ marksL, lowB (strL t) = false := by decide
theorem tk_map (r : List TT) (k : Nat) (h : k < r.length) : tk (r.map toTk) k = toTk r[k] := by
  unfold tk
  rw [List.getElem?_map, List.getElem?_eq_getElem h]
  rfl
theorem tk_out (r : List Tk) (k : Nat) (h : ¬ k < r.length) : tk r k = ⟨1, ⟨#[]⟩, 0, false, 0, 0⟩ := by
  unfold tk
  rw [List.getElem?_eq_none (by omega)]
  rfl
theorem row_ok {N : Nat} (hN : N ≤ 65536) {r : List TT} (h : Row N r) : TokOk (r.map toTk) where
  next := fun k hk hn => by
    rw [List.length_map] at hk ⊢
    rw [tk_map r k hk] at hn
    have h1 := h.fin k hk
    have : ¬ r[k].1.kind = 1 := fun e => hn (by show ((r[k].1.kind : Nat) : Int) = 1; omega)
    rw [h1] at this
    omega
  size := fun k => by
    by_cases hk : k < r.length
    · rw [tk_map r k hk]
      have := h.sz k hk
      show (strL r[k].1.text).size ≤ _
      rw [Go.Proofs.YtjeioblhpfogfaaGreatDoorLx.strL_size]
      omega
    · rw [tk_out _ _ (by rw [List.length_map]; exact hk)]
      exact Nat.zero_le _
theorem row_w {N : Nat} {r : List TT} (h : Row N r) : TokW (r.map toTk) where
  wd := fun k hk => by
    by_cases hl : k < r.length
    · rw [tk_map r k hl] at hk ⊢
      have := (h.pt k hl).2.2.1 (by have : ((r[k].1.kind : Nat) : Int) = 3 := hk; omega)
      exact words_low _ (by unfold resv at this; exact List.contains_iff_mem.1 this)
    · rw [tk_out _ _ (by rw [List.length_map]; exact hl)] at hk
      cases hk
  mrk := fun k hk => by
    by_cases hl : k < r.length
    · rw [tk_map r k hl] at hk ⊢
      have := (h.pt k hl).2.2.2.1 (by have : ((r[k].1.kind : Nat) : Int) = 4 := hk; omega)
      exact marks_low _ (by unfold isM at this; exact List.contains_iff_mem.1 this)
    · rw [tk_out _ _ (by rw [List.length_map]; exact hl)] at hk
      cases hk
  en := fun k hk => by
    by_cases hl : k < r.length
    · rw [tk_map r k hl] at hk ⊢
      have := (h.pt k hl).2.2.2.2 (by have : ((r[k].1.kind : Nat) : Int) = 1 := hk; omega)
      show strL r[k].1.text = _
      rw [this]
      rfl
    · rw [tk_out _ _ (by rw [List.length_map]; exact hl)]
  kds := fun k => by
    by_cases hl : k < r.length
    · rw [tk_map r k hl]
      have h1 := (h.pt k hl).1
      have h2 := (h.pt k hl).2.1
      show 1 ≤ ((r[k].1.kind : Nat) : Int) ∧ ((r[k].1.kind : Nat) : Int) ≤ 7
      omega
    · rw [tk_out _ _ (by rw [List.length_map]; exact hl)]
      show (1 : Int) ≤ 1 ∧ (1 : Int) ≤ 7
      omega
end Go.Proofs.YtjeioblhpfogfaaGreatDoor
namespace Go.Proofs.YtjeioblhpfogfaaGreatDoor
open Go.RowKit
open Go.Proofs.YtjeioblhpfogfaaGreatDoorLx (TT allF lst)

theorem Kr.ks {B cb : Nat} {w : World} (hcb : cb < B ∨ w.heap.size ≤ cb) : ∀ {n : Nat} {v : Value} {ks : List Tr}, Kr B n w v ks → Ks cb n w v ks
  | 0, _, _, h => h
  | n + 1, v, ks, h => by
    rw [Kr] at h
    rw [Ks]
    obtain ⟨hl, ao, cap, rfl, h⟩ := h
    refine ⟨hl, ao, cap, rfl, fun i hi => ?_⟩
    obtain ⟨b, off, x, kv, ks', e, ⟨cs, f, hh⟩, ⟨he, hc, hB⟩, hn, hk⟩ := h i hi
    have hlt : b < w.heap.size := (Array.getElem?_eq_some_iff.1 hh).1
    exact ⟨b, off, x, kv, ks', e, ⟨hlt, by omega⟩, ⟨he, hc⟩, hn, hk.ks hcb⟩
theorem Kx.ks {B cb : Nat} {w : World} (hcb : cb < B ∨ w.heap.size ≤ cb) : ∀ {n : Nat} {v : Value} {ks : List Tr}, Kx (fun b => b < B) n w v ks → Ks cb n w v ks
  | 0, _, _, h => h
  | n + 1, v, ks, h => by
    rw [Kx] at h
    rw [Ks]
    obtain ⟨hl, ao, cap, rfl, h⟩ := h
    refine ⟨hl, ao, cap, rfl, fun i hi => ?_⟩
    obtain ⟨b, off, x, kv, ks', e, ⟨hlt, hne⟩, ⟨he, hc⟩, hn, hk⟩ := h i hi
    exact ⟨b, off, x, kv, ks', e, ⟨hlt, by omega⟩, ⟨he, hc⟩, hn, hk.ks hcb⟩
theorem node_inj {x y : NdH} {a b : List Tr} (h : Tr.node x a = Tr.node y b) : x = y ∧ a = b := by
  unfold Tr.node at h
  injection h with h1 h2
  injection h2 with h2
  injection h2 with h2
  exact ⟨h2, h1⟩
/-- A piece, and then the end. -/
def topP (toks : List Tk) (c : Pc) : Pg := .call c 0 fun ts k => if (tk toks k).kind = 1 then .back ts k else .wrong toks k
def TopR (r : Rs) (rr : Except Int St) : Prop := match r with
  | .error q => rr = .error q
  | .ok p => ∃ x ks st s, p.1 = [Tr.node x ks] ∧ rr = .ok s ∧ s.done = [⟨x, ks, st⟩]
theorem run_end {toks : List Tk} {k : Nat} {ds : List Dn} (hk : k < toks.length) (hl : toks.length ≤ 1000000) (hd : ds.length ≤ 5) :
    RunD toks ⟨k, [73], [], ds⟩ (if (tk toks k).kind = 1 then .ok ⟨k, [], [], ds⟩ else .error (tk toks k).pos) := by
  have hG := goes73 (toks := toks) (s := ⟨k, [], [], ds⟩) ⟨hk, hl, by simp, by simp, by dsimp only; omega⟩
  by_cases h : (tk toks k).kind = 1
  · rw [if_pos h]
    exact RunD.ok rfl hG (if_pos h) (RunD.done rfl)
  · rw [if_neg h]
    exact RunD.wrong rfl hG (if_neg h)
theorem top_runs {toks : List Tk} (hT : TokOk toks) (hW : TokW toks) (hl : toks.length ≤ 1000000) (hpos : 0 < toks.length) {n : Nat} {r : Rs} {c : Pc} {p0 : Int} (hc : okP c) (hq : nqP c) (ha : nqA c) (hac : acP c = []) (hsr : stR c = none) (hst : stP toks c 0 = some p0) (hx : exP c = []) (hrm : 1 ≤ roomP c) (hlo : LvOk c []) (e : runP toks n (topP toks c) = some r) :
    ∃ rr, RunD toks ⟨0, enP toks c 0 ++ [73], beP c 0 ++ [], []⟩ rr ∧ TopR r rr := by
  unfold topP at e
  cases n with
  | zero => rw [runP] at e; cases e
  | succ n =>
    rw [runP] at e
    cases e1 : runP toks n (body toks c 0) with
    | none => rw [e1] at e; cases e
    | some q =>
      rw [e1] at e
      have hS := simAll hT hW.en (n + 1) n (Nat.lt_succ_self _) c 0 q hc hpos e1
      have hB : Bnd toks c 0 [73] [] ([] ++ []) := ⟨hpos, hl, by simp; omega, by simp⟩
      cases q with
      | error q =>
        injection e with e
        subst e
        exact ⟨.error q, hS [73] [] [] [] (.error q) (by rw [hac]; rfl) (by rw [hsr]; exact stOk_none _) hB hlo trivial rfl, rfl⟩
      | ok q =>
        obtain ⟨ts, k1⟩ := q
        obtain ⟨x, ks, rfl⟩ := nd_all n c 0 hq ha ts k1 e1
        obtain ⟨h1, h2, _⟩ := adv hT n c 0 hc hpos _ k1 e1
        dsimp only at e
        refine ⟨if (tk toks k1).kind = 1 then .ok ⟨k1, [], [], [⟨x, ks, p0⟩]⟩ else .error (tk toks k1).pos, hS [73] [] [] [] _ (by rw [hac]; rfl) (by rw [hsr]; exact stOk_none _) hB hlo trivial ?_, ?_⟩
        · intro ds hd hs hle'
          obtain ⟨d, rfl, hds⟩ := hs p0 hst
          obtain ⟨dx, dks, dst⟩ := d
          have h3 := node_inj (show Tr.node dx dks = Tr.node x ks by
            rw [List.map_singleton] at hd
            injection hd)
          obtain ⟨rfl, rfl⟩ := h3
          have h4 : dst = p0 := hds
          subst h4
          rw [hx]
          exact run_end h2 hl (by simp)
        · by_cases hk : (tk toks k1).kind = 1
          · rw [if_pos hk] at e ⊢
            unfold Pg.back at e
            rw [runP_ret] at e
            injection e with e
            subst e
            exact ⟨x, ks, p0, _, rfl, rfl, rfl⟩
          · rw [if_neg hk] at e ⊢
            unfold Pg.wrong at e
            rw [runP_ret] at e
            injection e with e
            subst e
            rfl
theorem top_expr {toks : List Tk} (hT : TokOk toks) (hW : TokW toks) (hl : toks.length ≤ 1000000) (hpos : 0 < toks.length) {n : Nat} {r : Rs} (e : runP toks n (topP toks .expr) = some r) :
    ∃ N rr, RunsN toks N ⟨0, [24, 73], [], []⟩ rr ∧ TopR r rr := by
  obtain ⟨rr, ⟨N, h⟩, h2⟩ := top_runs (c := .expr) hT hW hl hpos trivial trivial trivial rfl rfl rfl rfl (by decide) rfl e
  exact ⟨N, rr, h.plain, h2⟩
theorem top_prog {toks : List Tk} (hT : TokOk toks) (hW : TokW toks) (hl : toks.length ≤ 1000000) (hpos : 0 < toks.length) {n : Nat} {r : Rs} (e : runP toks n (topP toks (.prog [])) = some r) :
    ∃ N rr, RunsN toks N ⟨0, [20, 73], [], []⟩ rr ∧ TopR r rr := by
  obtain ⟨rr, h, h2⟩ := top_runs (c := .prog []) hT hW hl hpos trivial trivial trivial rfl rfl rfl rfl (by decide) trivial e
  obtain ⟨N, h⟩ := RunD.ok (s := ⟨0, [20, 73], [], []⟩) (k := 20) (rest := [73]) rfl (goes20 (toks := toks) (s := ⟨0, [73], [], []⟩) ⟨hpos, hl, by simp, by simp, by simp⟩) rfl h
  exact ⟨N, rr, h.plain, h2⟩
/-- What tokens are read as: a tree, or a place and why. -/
def AskT (toks : List Tk) (c : Pc) (X : Except (Int × Int) Tr) : Prop := ∃ n r, runP toks n (topP toks c) = some r ∧ match r with
  | .error q => X = .error (q, 90)
  | .ok p => ∃ x ks, p.1 = [Tr.node x ks] ∧ X = if dpR (Tr.node x ks) ≤ 200 then .ok (Tr.node x ks) else .error (0, 91)
/-- What a source is read as. -/
def Ask (l : List UInt8) (c : Pc) (X : Except (Int × Int) Tr) : Prop :=
  (65536 < l.length ∧ X = .error (0, 3)) ∨ (l.length ≤ 65536 ∧ ((∃ p : Nat, allF l = .error p ∧ X = .error ((p : Int), 70)) ∨ ∃ ts, allF l = .ok ts ∧ AskT (ts.map toTk) c X))
theorem askT_some {toks : List Tk} (hT : TokOk toks) (hpos : 0 < toks.length) {c : Pc} (hc : okP c) (hq : nqP c) (ha : nqA c) : ∃ X, AskT toks c X := by
  obtain ⟨n, r, e⟩ := tm_all hT hc hpos
  cases r with
  | error q =>
    refine ⟨.error (q, 90), n + 1, .error q, ?_, rfl⟩
    unfold topP
    rw [runP, e]
  | ok p =>
    obtain ⟨ts, k1⟩ := p
    obtain ⟨x, ks, rfl⟩ := nd_all n c 0 hq ha ts k1 e
    by_cases hk : (tk toks k1).kind = 1
    · refine ⟨if dpR (Tr.node x ks) ≤ 200 then .ok (Tr.node x ks) else .error (0, 91), n + 1, .ok ([Tr.node x ks], k1), ?_, x, ks, rfl, rfl⟩
      unfold topP
      rw [runP, e]
      dsimp only
      rw [if_pos hk]
      exact runP_ret
    · refine ⟨.error ((tk toks k1).pos, 90), n + 1, .error (tk toks k1).pos, ?_, rfl⟩
      unfold topP
      rw [runP, e]
      dsimp only
      rw [if_neg hk]
      exact runP_ret
theorem ask_some (l : List UInt8) {c : Pc} (hc : okP c) (hq : nqP c) (ha : nqA c) : ∃ X, Ask l c X := by
  by_cases h : l.length ≤ 65536
  · cases e : allF l with
    | error p => exact ⟨_, .inr ⟨h, .inl ⟨p, e, rfl⟩⟩⟩
    | ok ts =>
      obtain ⟨h1, h2⟩ := allF_row e
      obtain ⟨X, hX⟩ := askT_some (row_ok h h1) (by rw [List.length_map]; exact h1.pos) hc hq ha
      exact ⟨X, .inr ⟨h, .inr ⟨ts, e, hX⟩⟩⟩
  · exact ⟨_, .inl ⟨by omega, rfl⟩⟩
/-- A block that holds none of the trees has turned. -/
theorem Ks.both {w w' : World} {cb bx : Nat} (hk : Kept (fun b => b = bx) w w') : ∀ {n : Nat} {v : Value} {ks : List Tr}, Ks cb n w v ks → Ks bx n w v ks → Ks cb n w' v ks
  | 0, _, _, h, _ => h
  | n + 1, v, ks, h, h' => by
    rw [Ks] at h h' ⊢
    obtain ⟨hl, ao, cap, rfl, h⟩ := h
    obtain ⟨_, ao2, cap2, e0, h'⟩ := h'
    injection e0 with e0 _ _
    subst e0
    refine ⟨hl, ao, cap, rfl, fun i hi => ?_⟩
    obtain ⟨b, off, x, kv, ks', e, ⟨hlt, hne⟩, ⟨he, hc⟩, hn, hk1⟩ := h i hi
    obtain ⟨b2, off2, x2, kv2, ks2, e2, ⟨_, hne2⟩, ⟨he2, _⟩, hn2, hk2⟩ := h' i hi
    rw [e] at e2
    injection e2 with e2
    injection e2 with e3 e4 _
    subst e3 e4
    obtain ⟨rfl, rfl⟩ := node_inj (he.symm.trans he2)
    have e5 : kv = kv2 := by
      have := hn.2.2.2.2.1.symm.trans hn2.2.2.2.2.1
      injection this
    subst e5
    exact ⟨b, off, x, kv, ks', e, ⟨Nat.lt_of_lt_of_le hlt hk.size, hne⟩, ⟨he, hc⟩, hn.kept hk hlt hne2, hk1.both hk hk2⟩
/-- Trees of which each row lies from a block on. -/
def KsB (B n : Nat) (w : World) (v : Value) (ks : List Tr) : Prop := ∀ cb, cb < B ∨ w.heap.size ≤ cb → Ks cb n w v ks
theorem KsB.below {B n : Nat} {w w' : World} {v : Value} {ks : List Tr} (h : KsB B n w v ks) (hb : Below w.heap.size w w') : KsB B n w' v ks := fun cb hc => by
  rcases hc with hc | hc
  · exact (h cb (.inl hc)).below hb
  · exact ((h w.heap.size (.inr (Nat.le_refl _))).below hb).fresh hc
theorem KsB.less {B B' n : Nat} {w : World} {v : Value} {ks : List Tr} (h : KsB B n w v ks) (hb : B' ≤ B) : KsB B' n w v ks := fun cb hc => h cb (by omega)
theorem KsB.any {B n : Nat} {w : World} {v : Value} {ks : List Tr} (h : KsB B n w v ks) : Ks w.heap.size n w v ks := h _ (.inr (Nat.le_refl _))
theorem KsB.set6 {B bx n : Nat} {w : World} {v : Value} {ks : List Tr} (h : KsB B n w v ks) (hb : bx < B) (v0 v1 v2 v3 v4 v5 : Value) : KsB B n ((((((w.setCell ⟨bx, 0, none⟩ v0).setCell ⟨bx, 1, none⟩ v1).setCell ⟨bx, 2, none⟩ v2).setCell ⟨bx, 3, none⟩ v3).setCell ⟨bx, 4, none⟩ v4).setCell ⟨bx, 5, none⟩ v5) v ks := fun cb hc =>
  (h cb (by rw [World.size_setCell, World.size_setCell, World.size_setCell, World.size_setCell, World.size_setCell, World.size_setCell] at hc; exact hc)).both ((((((((Kept.rfl (fun b => b = bx) w).setC (b := bx) (o := 0) (fun _ => rfl) v0).setC (b := bx) (o := 1) (fun _ => rfl) v1).setC (b := bx) (o := 2) (fun _ => rfl) v2).setC (b := bx) (o := 3) (fun _ => rfl) v3).setC (b := bx) (o := 4) (fun _ => rfl) v4).setC (b := bx) (o := 5) (fun _ => rfl) v5)) (h bx (.inl hb))
theorem size_set6 (w : World) (bx : Nat) (v0 v1 v2 v3 v4 v5 : Value) : ((((((w.setCell ⟨bx, 0, none⟩ v0).setCell ⟨bx, 1, none⟩ v1).setCell ⟨bx, 2, none⟩ v2).setCell ⟨bx, 3, none⟩ v3).setCell ⟨bx, 4, none⟩ v4).setCell ⟨bx, 5, none⟩ v5).heap.size = w.heap.size := by
  rw [World.size_setCell, World.size_setCell, World.size_setCell, World.size_setCell, World.size_setCell, World.size_setCell]
/-- What a function that reads a source leaves. -/
def Tells (W : World) (X : Except (Int × Int) Tr) (e : Ending) (w' : World) : Prop := Below W.heap.size W w' ∧ match X with
  | .error p => e = .returned (.tuple #[.agg #[.int .i64 0, .string ⟨#[]⟩, .int .u32 0, .bool false, .slice none 0 0, .int .i64 0], .int .i64 p.1, .int .i64 p.2])
  | .ok t => ∃ x kv ks n, t = Tr.node x ks ∧ e = .returned (.tuple #[.agg #[.int .i64 x.kind, .string x.str, .int .u32 x.num, .bool x.flag, kv, .int .i64 x.pos], .int .i64 0, .int .i64 0]) ∧ KsB W.heap.size n w' kv ks
end Go.Proofs.YtjeioblhpfogfaaGreatDoor
namespace Go.Proofs.YtjeioblhpfogfaaGreatDoor
open Go.RowKit
open Go.Proofs.YtjeioblhpfogfaaGreatDoorLx (TT allF lst HM AllR OwnT all12 all12_long)

theorem tree19_any {s : ByteArray} {k0 : Nat} {w : World} {p er : Int} (he : ¬ er = 0) (HA : Hid (∀ W, Below w.heap.size w W → Calls Tryz.prog 35 #[.string s] W fun e w' => e = .returned (.tuple #[.slice none 0 0, .int .i64 p, .int .i64 er]) ∧ Below W.heap.size W w')) : Calls Tryz.prog 19 #[.string s, .func (.func k0) #[] #[]] w (Tells w (.error (p, er))) := by
  have he' : (er == 0) = false := by simpa using he
  clear he
  go_enter Tryz.func19, Tryz.ntmps19
  go_wp2_with (go_at_call 35; (with_reducible refine (HA.out _ (below1 _ _)).mono ?_); rintro e w1 ⟨rfl, hb⟩; have HX := hid' ((Bx.new w zN (.slice none 0 0)).below hb); have HB := hid' (below_call hb); obtain ⟨x0, x1, x2, x3, x4, x5, xf, xl⟩ := HX.out.six; have f0 := xf 0; have f1 := xf 1; have f2 := xf 2; have f3 := xf 3; have f4 := xf 4; have f5 := xf 5; clear hb xf)
  refine ret_b3 (bx := w.heap.size) (HX.out.set6 zN (.slice none 0 0)) (fun W c0 c1 c2 c3 c4 c5 => by simp [results, Tryz.results19, go_sem, c0, c1, c2, c3, c4, c5]) rfl ⟨?_, rfl⟩
  exact below_set6' HB.out (Nat.le_refl _) _ _ _ _ _ _
theorem tree19_long (s : ByteArray) (hs : ¬ s.size ≤ 65536) (k0 : Nat) (w : World) : Calls Tryz.prog 19 #[.string s, .func (.func k0) #[] #[]] w (Tells w (.error (0, 3))) :=
  tree19_any (by decide) (hid' fun W _ => (all12_long s hs W).mono fun e w' ⟨h1, h2⟩ => ⟨h1, by rw [h2]; exact Below.refl _ _⟩)
theorem tree19_lex (s : ByteArray) (hs : s.size ≤ 65536) {p : Nat} (hF : allF (lst s) = .error p) (k0 : Nat) {m : Int} {w : World} (hm : HM m w) : Calls Tryz.prog 19 #[.string s, .func (.func k0) #[] #[]] w (Tells w (.error ((p : Int), 70))) := by
  have HA : Hid (∀ W, Below w.heap.size w W → Calls Tryz.prog 35 #[.string s] W fun e w' => e = .returned (.tuple #[.slice none 0 0, .int .i64 (p : Int), .int .i64 70]) ∧ Below W.heap.size W w') := fun W hb => (all12 s hs m W (hm.below hb)).mono fun e w' ⟨h1, h2⟩ => by
    refine ⟨?_, h2⟩
    rcases h1 with ⟨q, h3, h4⟩ | ⟨ts, v, h3, _⟩
    · rw [hF] at h3
      injection h3 with h3
      subst h3
      exact h4
    · rw [hF] at h3
      cases h3
  exact tree19_any (by decide) HA
theorem own_zero {w : World} {B e z n : Nat} {v : Value} {xs : List Value} (h : w.ownsRow B e z v n xs) : w.ownsRow 0 e z v n xs := by
  obtain ⟨h1, h2⟩ := h
  refine ⟨h1, h2.imp id fun ⟨g, cap, cur, a1, a2, a3⟩ => ⟨g, cap, cur, a1, Nat.zero_le _, a3⟩⟩
theorem own_slice {w : World} {B e z n : Nat} {v : Value} {xs : List Value} (h : w.ownsRow B e z v n xs) : ∃ ao cap, v = .slice ao n cap := by
  obtain ⟨_, ⟨e1, e2⟩ | ⟨g, cap, cur, e1, _⟩⟩ := h
  · exact ⟨none, 0, by rw [e1, e2]⟩
  · exact ⟨_, _, e1⟩
theorem kept_bx {p bx : Nat} {W W' : World} {x : NdH} {kv : Value} (h : Bx W bx x kv) (hk : Kept (fun b => b = p) W W') (hn : ¬ bx = p) : Bx W' bx x kv := (hk.block bx h.lt hn).trans h
theorem kept_below {p : Nat} {w W W' : World} (h : Below w.heap.size w W) (hk : Kept (fun b => b = p) W W') (hn : w.heap.size ≤ p) : Below w.heap.size w W' :=
  ⟨hk.os.trans h.os, hk.tape.trans h.tape, hk.output.trans h.output, Nat.le_trans h.size hk.size, fun k hl => (hk.block k (Nat.lt_of_lt_of_le hl h.size) (by omega)).trans (h.block k hl)⟩
/-- read, told by the plain answer. -/
theorem read_top {W : World} {p k0 N : Nat} {toks : List Tk} {tv : Value} {r : Rs} {rr : Except Int St} (hh : W.heap[p]? = some (.cells #[tv, .int .i64 0, .slice none 0 0, .slice none 0 0, .slice none 0 0] 65 (0, 0))) (htk : W.ownsRow 0 42 6 tv toks.length (tksC toks)) (hp0 : ¬ p = 0) (hO : OpT W) (hr : RunsN toks N ⟨0, [k0, 73], [], []⟩ rr) (ht : TopR r rr) :
    Calls Tryz.prog 36 #[.pointer (some ⟨p, 0, none⟩), .func (.func k0) #[] #[]] W fun e w' => Kept (fun b => b = p) W w' ∧ match r with
      | .error q => e = .returned (.tuple #[.agg #[.int .i64 0, .string ⟨#[]⟩, .int .u32 0, .bool false, .slice none 0 0, .int .i64 0], .int .i64 q, .int .i64 90])
      | .ok q => ∃ x ks ao cap n, q.1 = [Tr.node x ks] ∧ e = .returned (.tuple #[.agg #[.int .i64 x.kind, .string x.str, .int .u32 x.num, .bool x.flag, .slice ao ks.length cap, .int .i64 x.pos], .int .i64 0, .int .i64 0]) ∧ KsB W.heap.size n w' (.slice ao ks.length cap) ks := by
  cases r with
  | error q =>
    have ht' : rr = .error q := ht
    subst ht'
    exact (read36 hh htk hp0 hO hr (fun s' h => by cases h)).mono fun e w' h => ⟨h.1, h.2⟩
  | ok q =>
    obtain ⟨x, ks, st, s, h1, rfl, h2⟩ := ht
    refine (read36 hh htk hp0 hO hr (fun s' h => by injection h with h; subst h; exact ⟨_, _, h2⟩)).mono fun e w' h => ⟨h.1, ?_⟩
    obtain ⟨d, l, kv, B, n, h3, h4, h5, h6⟩ := h.2
    rw [h2] at h3
    injection h3 with h3 _
    subst h3
    have h7 : KsB W.heap.size n w' kv ks := fun cb hc => h5.ks (by omega)
    obtain ⟨_, ao, cap, rfl⟩ := h7.any.shape
    exact ⟨x, ks, ao, cap, n, h1, h4, h7⟩
theorem all_ok {s : ByteArray} (hs : s.size ≤ 65536) {ts : List TT} (hF : allF (lst s) = .ok ts) {m : Int} {W : World} (hm : HM m W) : Calls Tryz.prog 35 #[.string s] W fun e w' => ∃ ao n cap, e = .returned (.tuple #[.slice ao n cap, .int .i64 0, .int .i64 0]) ∧ w'.ownsRow 0 42 6 (.slice ao n cap) (ts.map toTk).length (tksC (ts.map toTk)) ∧ Below W.heap.size W w' :=
  (all12 s hs m W hm).mono fun e w' ⟨h1, h2⟩ => by
    rcases h1 with ⟨q, h3, h4⟩ | ⟨ts', v, h3, h4, h5⟩
    · rw [hF] at h3
      cases h3
    · rw [hF] at h3
      injection h3 with h3
      subst h3
      unfold OwnT at h5
      rw [cells_toTk] at h5
      obtain ⟨ao, cap, rfl⟩ := own_slice h5
      exact ⟨ao, _, cap, h4, by rw [List.length_map]; exact own_zero h5, h2⟩
theorem tree19_bad {s : ByteArray} (hs : s.size ≤ 65536) {ts : List TT} (hF : allF (lst s) = .ok ts) {k0 N : Nat} {q : Int} {m : Int} {w : World} (hm : HM m w) (hO : OpT w) (h0 : 0 < w.heap.size) (hr : RunsN (ts.map toTk) N ⟨0, [k0, 73], [], []⟩ (.error q)) :
    Calls Tryz.prog 19 #[.string s, .func (.func k0) #[] #[]] w (Tells w (.error (q, 90))) := by
  have HA := hid' (all_ok hs hF (hm.below (below1 w (.cells #[.int .i64 0, .string ⟨#[]⟩, .int .u32 0, .bool false, .slice none 0 0, .int .i64 0] 25))))
  have HR : Hid (∀ (W : World) (p : Nat) (tv : Value), W.heap[p]? = some (.cells #[tv, .int .i64 0, .slice none 0 0, .slice none 0 0, .slice none 0 0] 65 (0, 0)) → W.ownsRow 0 42 6 tv (ts.map toTk).length (tksC (ts.map toTk)) → ¬ p = 0 → OpT W → Calls Tryz.prog 36 #[.pointer (some ⟨p, 0, none⟩), .func (.func k0) #[] #[]] W fun e w' => e = .returned (.tuple #[.agg #[.int .i64 0, .string ⟨#[]⟩, .int .u32 0, .bool false, .slice none 0 0, .int .i64 0], .int .i64 q, .int .i64 90]) ∧ Kept (fun b => b = p) W w') := fun W p tv a1 a2 a3 a4 => (read_top (r := .error q) a1 a2 a3 a4 hr rfl).mono fun e w' h => ⟨h.2, h.1⟩
  have HO := hid' hO
  generalize ts.map toTk = toks at *
  clear hs hF hm hO hr
  go_enter Tryz.func19, Tryz.ntmps19
  go_wp2_with (go_at_call 35; (with_reducible refine HA.out.mono ?_); rintro e w1 ⟨ao, n, cap, rfl, ho, hb⟩; have HT := hid' ho; have X1 := hid' ((Bx.new w zN (.slice none 0 0)).below hb); have B1 := hid' (below_call hb); have hs1 : w.heap.size < w1.heap.size := X1.out.lt; clear ho hb)
  refine (HR.out _ w1.heap.size _ (heap_alloc_new w1 _) (owns_below HT.out (below1 _ _)) (by omega) (HO.out.below (B := 0) (B1.out.alloc B1.out.size _) h0)).mono ?_
  rintro e w2 ⟨rfl, hk⟩
  have B2 := hid' (kept_below (B1.out.alloc B1.out.size _) hk B1.out.size)
  have X2 := hid' (kept_bx (X1.out.alloc _) hk (by omega))
  clear hk HR HA
  obtain ⟨x0, x1, x2, x3, x4, x5, xf, xl⟩ := X2.out.six
  have f0 := xf 0
  have f1 := xf 1
  have f2 := xf 2
  have f3 := xf 3
  have f4 := xf 4
  have f5 := xf 5
  have hne : ¬ w.heap.size = w2.heap.size := by omega
  clear xf
  go_wp2
  refine ret_b3 (bx := w.heap.size) ((X2.out.set6 zN (.slice none 0 0)).alloc _) (fun W c0 c1 c2 c3 c4 c5 => by simp [results, Tryz.results19, go_sem, c0, c1, c2, c3, c4, c5]) rfl ⟨?_, rfl⟩
  exact (below_set6' B2.out (Nat.le_refl _) _ _ _ _ _ _).alloc (by rw [size_set6]; exact B2.out.size) _
theorem tree19_ok {s : ByteArray} (hs : s.size ≤ 65536) {ts : List TT} (hF : allF (lst s) = .ok ts) {k0 N k1 : Nat} {rr : Except Int St} {x : NdH} {ks : List Tr} {m : Int} {w : World} (hm : HM m w) (hO : OpT w) (h0 : 0 < w.heap.size) (hr : RunsN (ts.map toTk) N ⟨0, [k0, 73], [], []⟩ rr) (hT : TopR (.ok ([Tr.node x ks], k1)) rr) :
    Calls Tryz.prog 19 #[.string s, .func (.func k0) #[] #[]] w (Tells w (if dpR (Tr.node x ks) ≤ 200 then .ok (Tr.node x ks) else .error (0, 91))) := by
  have HA := hid' (all_ok hs hF (hm.below (below1 w (.cells #[.int .i64 0, .string ⟨#[]⟩, .int .u32 0, .bool false, .slice none 0 0, .int .i64 0] 25))))
  have HR : Hid (∀ (W : World) (p : Nat) (tv : Value), W.heap[p]? = some (.cells #[tv, .int .i64 0, .slice none 0 0, .slice none 0 0, .slice none 0 0] 65 (0, 0)) → W.ownsRow 0 42 6 tv (ts.map toTk).length (tksC (ts.map toTk)) → ¬ p = 0 → OpT W → Calls Tryz.prog 36 #[.pointer (some ⟨p, 0, none⟩), .func (.func k0) #[] #[]] W fun e w' => ∃ ao cap n, e = .returned (.tuple #[.agg #[.int .i64 x.kind, .string x.str, .int .u32 x.num, .bool x.flag, .slice ao ks.length cap, .int .i64 x.pos], .int .i64 0, .int .i64 0]) ∧ KsB W.heap.size n w' (.slice ao ks.length cap) ks ∧ Kept (fun b => b = p) W w') := fun W p tv a1 a2 a3 a4 => (read_top (r := .ok ([Tr.node x ks], k1)) a1 a2 a3 a4 hr hT).mono fun e w' h => by
    obtain ⟨h1, y, ls, ao, cap, n, h2, h3, h4⟩ := h
    injection h2 with h2 _
    obtain ⟨rfl, rfl⟩ := node_inj h2
    exact ⟨ao, cap, n, h3, h4, h1⟩
  have HO := hid' hO
  have HD : Hid (∀ (W : World) (ao : Option Addr) (cap n : Nat), Ks W.heap.size n W (.slice ao ks.length cap) ks → Calls Tryz.prog 37 #[.agg #[.int .i64 x.kind, .string x.str, .int .u32 x.num, .bool x.flag, .slice ao ks.length cap, .int .i64 x.pos]] W fun e w' => e = .returned (.int .i64 (dpR (Tr.node x ks) : Int)) ∧ Below W.heap.size W w') := fun W ao cap n h => depth37 h
  generalize ts.map toTk = toks at *
  clear hs hF hm hO hr hT
  obtain ⟨D, hD⟩ : ∃ D, D = dpR (Tr.node x ks) := ⟨_, rfl⟩
  rw [← hD] at HD ⊢
  clear hD
  by_cases hle : D ≤ 200
  · rw [if_pos hle]
    go_enter Tryz.func19, Tryz.ntmps19
    go_wp2_with (go_at_call 35; (with_reducible refine HA.out.mono ?_); rintro e w1 ⟨ao, n, cap, rfl, ho, hb⟩; have HT := hid' ho; have X1 := hid' ((Bx.new w zN (.slice none 0 0)).below hb); have B1 := hid' (below_call hb); have hs1 : w.heap.size < w1.heap.size := X1.out.lt; clear ho hb)
    refine (HR.out _ w1.heap.size _ (heap_alloc_new w1 _) (owns_below HT.out (below1 _ _)) (by omega) (HO.out.below (B := 0) (B1.out.alloc B1.out.size _) h0)).mono ?_
    rintro e w2 ⟨ka, kc, kn, rfl, hK, hk⟩
    have B2 := hid' (kept_below (B1.out.alloc B1.out.size _) hk B1.out.size)
    have X2 := hid' (kept_bx (X1.out.alloc _) hk (by omega))
    have K2 : Hid (KsB (w.heap.size + 1) kn w2 (.slice ka ks.length kc) ks) := hid' (hK.less (by simp; omega))
    have hs2 : w.heap.size < w2.heap.size := X2.out.lt
    clear hk HR HA hK
    have hne : ¬ w.heap.size = w2.heap.size := by omega
    have K3 := hid' (K2.out.below (below1 w2 (.cells #[.int .i64 x.kind, .string x.str, .int .u32 x.num, .bool x.flag, .slice ka ks.length kc, .int .i64 x.pos] 25)))
    go_wp2_with (go_at_call 37; (with_reducible refine (HD.out _ _ _ _ K3.out.any).mono ?_); rintro e w3 ⟨rfl, hb⟩; have B3 := hid' (below_on (B2.out.alloc B2.out.size _) hb); have X3 := hid' ((X2.out.alloc _).below hb); have Y3 := hid' ((Bx.new w2 x (.slice ka ks.length kc)).below hb); have K4 := hid' (K3.out.below hb); obtain ⟨x0, x1, x2, x3, x4, x5, xf, xl⟩ := X3.out.six; have f0 := xf 0; have f1 := xf 1; have f2 := xf 2; have f3 := xf 3; have f4 := xf 4; have f5 := xf 5; obtain ⟨z0, z1, z2, z3, z4, z5, zf, zl⟩ := Y3.out.six; clear hb xf zf)
    refine ret_b3 (p := 0) (er := 0) (bx := w.heap.size) (X3.out.set6 x (.slice ka ks.length kc)) (fun W c0 c1 c2 c3 c4 c5 => by simp [results, Tryz.results19, go_sem, c0, c1, c2, c3, c4, c5]) rfl ⟨?_, ?_⟩
    · exact below_set6' B3.out (Nat.le_refl _) _ _ _ _ _ _
    · exact ⟨x, _, ks, kn, rfl, rfl, (K4.out.set6 (Nat.lt_succ_self _) _ _ _ _ _ _).less (Nat.le_succ _)⟩
  · rw [if_neg hle]
    have hle' : (200 : Int) < (D : Int) := by omega
    go_enter Tryz.func19, Tryz.ntmps19
    go_wp2_with (go_at_call 35; (with_reducible refine HA.out.mono ?_); rintro e w1 ⟨ao, n, cap, rfl, ho, hb⟩; have HT := hid' ho; have X1 := hid' ((Bx.new w zN (.slice none 0 0)).below hb); have B1 := hid' (below_call hb); have hs1 : w.heap.size < w1.heap.size := X1.out.lt; clear ho hb)
    refine (HR.out _ w1.heap.size _ (heap_alloc_new w1 _) (owns_below HT.out (below1 _ _)) (by omega) (HO.out.below (B := 0) (B1.out.alloc B1.out.size _) h0)).mono ?_
    rintro e w2 ⟨ka, kc, kn, rfl, hK, hk⟩
    have B2 := hid' (kept_below (B1.out.alloc B1.out.size _) hk B1.out.size)
    have X2 := hid' (kept_bx (X1.out.alloc _) hk (by omega))
    have K2 : Hid (KsB (w.heap.size + 1) kn w2 (.slice ka ks.length kc) ks) := hid' (hK.less (by simp; omega))
    have hs2 : w.heap.size < w2.heap.size := X2.out.lt
    clear hk HR HA hK
    have hne : ¬ w.heap.size = w2.heap.size := by omega
    have K3 := hid' (K2.out.below (below1 w2 (.cells #[.int .i64 x.kind, .string x.str, .int .u32 x.num, .bool x.flag, .slice ka ks.length kc, .int .i64 x.pos] 25)))
    go_wp2_with (go_at_call 37; (with_reducible refine (HD.out _ _ _ _ K3.out.any).mono ?_); rintro e w3 ⟨rfl, hb⟩; have B3 := hid' (below_on (B2.out.alloc B2.out.size _) hb); have X3 := hid' ((X2.out.alloc _).below hb); obtain ⟨x0, x1, x2, x3, x4, x5, xf, xl⟩ := X3.out.six; have f0 := xf 0; have f1 := xf 1; have f2 := xf 2; have f3 := xf 3; have f4 := xf 4; have f5 := xf 5; clear hb xf)
    refine ret_b3 (bx := w.heap.size) (X3.out.set6 zN (.slice none 0 0)) (fun W c0 c1 c2 c3 c4 c5 => by simp [results, Tryz.results19, go_sem, c0, c1, c2, c3, c4, c5]) rfl ⟨?_, rfl⟩
    exact below_set6' B3.out (Nat.le_refl _) _ _ _ _ _ _
/-- tree of any source. -/
theorem tree19 {s : ByteArray} {c : Pc} {X : Except (Int × Int) Tr} {k0 : Nat} {m : Int} {w : World} (hX : Ask (lst s) c X) (hm : HM m w) (hO : OpT w) (h0 : 0 < w.heap.size)
    (hrun : ∀ {toks : List Tk}, TokOk toks → TokW toks → toks.length ≤ 1000000 → 0 < toks.length → ∀ {n : Nat} {r : Rs}, runP toks n (topP toks c) = some r → ∃ N rr, RunsN toks N ⟨0, [k0, 73], [], []⟩ rr ∧ TopR r rr) :
    Calls Tryz.prog 19 #[.string s, .func (.func k0) #[] #[]] w (Tells w X) := by
  have hl : (lst s).length = s.size := Go.Proofs.YtjeioblhpfogfaaGreatDoorLx.lst_len s
  rcases hX with ⟨h1, rfl⟩ | ⟨h1, ⟨p, h2, rfl⟩ | ⟨ts, h2, n, r, h3, h4⟩⟩
  · exact tree19_long s (by omega) k0 w
  · exact tree19_lex s (by omega) h2 k0 hm
  · obtain ⟨h5, h6⟩ := allF_row h2
    obtain ⟨N, rr, h7, h8⟩ := hrun (row_ok h1 h5) (row_w h5) (by rw [List.length_map]; omega) (by rw [List.length_map]; exact h5.pos) h3
    cases r with
    | error q =>
      have h4' : X = .error (q, 90) := h4
      have h8' : rr = .error q := h8
      subst h4' h8'
      exact tree19_bad (by omega) h2 hm hO h0 h7
    | ok p =>
      obtain ⟨l, k1⟩ := p
      obtain ⟨x, ks, h9, rfl⟩ := h4
      have h9' : l = [Tr.node x ks] := h9
      subst h9'
      exact tree19_ok (by omega) h2 hm hO h0 h7 h8
end Go.Proofs.YtjeioblhpfogfaaGreatDoor
