/- Assemble and Place. -/
import Derived.Test.YtgnlplddppheiaaCode
namespace Go.Proofs.Ytgnlplddppheiaa
open Go.RowKit Go.Maps
set_option linter.unusedVariables false

/-- The code of lines, the first being instruction k. -/
def codeGo (f : Int → Option Nat) (S : Nat → Bool) (k : Nat) : List Ln → List UInt8
  | [] => []
  | x :: r => if x.label = 0 then lineB f S k x ++ codeGo f S (k + 1) r else codeGo f S k r
theorem codeGo_append (f : Int → Option Nat) (S : Nat → Bool) (a b : List Ln) : ∀ k, codeGo f S k (a ++ b) = codeGo f S k a ++ codeGo f S (k + insN a) b := by
  induction a with
  | nil => intro k; simp [codeGo, insN]
  | cons x r ih =>
    intro k
    have e : insN (x :: r) = insN [x] + insN r := insN_append [x] r
    rw [List.cons_append, codeGo, codeGo, e, insN_one]
    by_cases h : x.label = 0
    · simp only [h, if_true]
      rw [ih, List.append_assoc, Nat.add_assoc]
    · simp only [h, if_false]
      rw [ih, Nat.zero_add]
theorem codeGo_one (f : Int → Option Nat) (S : Nat → Bool) (k : Nat) (x : Ln) : codeGo f S k [x] = if x.label = 0 then lineB f S k x else [] := by simp [codeGo]
theorem lineB_len (f : Int → Option Nat) (S : Nat → Bool) (k : Nat) (x : Ln) : (lineB f S k x).length ≤ 4 + (if S k = true then 4 else 0) := by
  unfold lineB
  split
  · simp [wdL_length]
  · split
    · simp [wdL_length]
    · simp [wdL_length]
theorem codeGo_len (f : Int → Option Nat) (S : Nat → Bool) (ls : List Ln) : ∀ k, (codeGo f S k ls).length + 4 * atF S k ≤ 4 * atF S (k + insN ls) := by
  induction ls with
  | nil => intro k; simp [codeGo, insN]
  | cons x r ih =>
    intro k
    have e : insN (x :: r) = insN [x] + insN r := insN_append [x] r
    rw [codeGo, e, insN_one]
    by_cases h : x.label = 0
    · simp only [h, if_true]
      have h1 := ih (k + 1)
      have h2 := lineB_len f S k x
      have h3 := atF_succ S k
      rw [← Nat.add_assoc]
      rw [List.length_append]
      split at h3 <;> simp_all <;> omega
    · simp only [h, if_false]
      have h1 := ih k
      rw [Nat.zero_add]
      exact h1

/-- What Assemble answers. -/
def AsmIs (ls : List Ln) (s : ByteArray) (er : Int) : Prop :=
  (ErrIs ls er ∧ er ≠ 0 ∧ s = ⟨#[]⟩) ∨
  (ErrIs ls 0 ∧ ∃ S, Least (bsOf ls) S ∧ ((1048576 < 4 * atF S (insN ls) ∧ s = ⟨#[]⟩ ∧ er = 3) ∨ (4 * atF S (insN ls) ≤ 1048576 ∧ s = strL (codeGo (labs ls) S 0 ls) ∧ er = 0)))

/-- In the midst of Assemble. -/
structure AMid (w : World) (base mb ab pb : Nat) (ls : List Ln) (S : Nat → Bool) (i : Nat) (v k : Value) (W : World) : Prop where
  own : W.ownsRow base 5 1 v (codeGo (labs ls) S 0 (ls.take i)).length (vals (codeGo (labs ls) S 0 (ls.take i)))
  cnt : k = .int .i64 ((insN (ls.take i) : Nat) : Int)
  plan : Plan W mb ab (insN ls + 1) ls.length (labL ls).length (labs ls) S
  p0 : W.cell? ⟨pb, 0, none⟩ = some (.map (some mb))
  p1 : W.cell? ⟨pb, 1, none⟩ = some (.slice (some ⟨ab, 0, none⟩) (insN ls + 1) (insN ls + 1))
  sz : base ≤ W.heap.size
  hm : mb < base
  ha : ab < base
  hp : pb < base
  hw : w.heap.size ≤ base
  below : Below w.heap.size w W

theorem AMid.next {w W W' : World} {base mb ab pb i : Nat} {ls : List Ln} {S : Nat → Bool} {v v' k k' : Value} (h : AMid w base mb ab pb ls S i v k W) (hi : i < ls.length) (hk : k' = .int .i64 ((insN (ls.take i) + insN [ls[i]] : Nat) : Int)) (hK : Kept (fun b => v.ownBlock = some b) W W')
    (ho : W'.ownsRow base 5 1 v' (codeGo (labs ls) S 0 (ls.take i) ++ codeGo (labs ls) S (insN (ls.take i)) [ls[i]]).length (vals (codeGo (labs ls) S 0 (ls.take i) ++ codeGo (labs ls) S (insN (ls.take i)) [ls[i]]))) : AMid w base mb ab pb ls S (i + 1) v' k' W' := by
  have nb : ∀ j, j < base → ¬ v.ownBlock = some j := fun j hj e => by have := (h.own.lt j e).1; omega
  have e : codeGo (labs ls) S 0 (ls.take (i + 1)) = codeGo (labs ls) S 0 (ls.take i) ++ codeGo (labs ls) S (insN (ls.take i)) [ls[i]] := by rw [taken' ls i hi, codeGo_append, Nat.zero_add]
  have hs := h.sz
  refine ⟨by rw [e]; exact ho, by rw [hk, taken' ls i hi, insN_append], h.plan.kept hK (nb _ h.hm) (nb _ h.ha), (hK.cell (Nat.lt_of_lt_of_le h.hp hs) (nb _ h.hp)).trans h.p0, (hK.cell (Nat.lt_of_lt_of_le h.hp hs) (nb _ h.hp)).trans h.p1, Nat.le_trans hs hK.size, h.hm, h.ha, h.hp, h.hw, h.below.trans (hK.below h.below.size (fun b hb => Nat.le_trans h.hw (h.own.lt b hb).1))⟩

theorem run_make50 (n : Nat) (hn : n ≤ 4000000) : ∃ M : Array Value, M.size = n ∧ ∀ W : World, (Instr.makeSlice 50 (.int .i64 0) (.int .i64 (n : Int))).run Try.prog W = .ok (.slice (some ⟨W.heap.size, 0, none⟩) 0 n) (W.alloc (.cells M 5)) := by
  obtain ⟨i0, hi, hz0, hz1, hz2⟩ := info_parts info5'
  refine ⟨madeCells (Value.int .u8 0).cells (n * i0.size), by rw [size_madeCells, hz1]; omega, fun W => ?_⟩
  have h := run_make (P := Try.prog) W 50 5 i0 (.int .u8 0) Try.underlying50 hi hz0 .i64 .i64 0 (n : Int) (by omega) (by omega) (by rw [hz2]; omega) (by omega)
  simpa using h

theorem assemble_err {w : World} {v : Value} {er : Int} (hne : er ≠ 0) (hL : Calls Try.prog 17 #[v] w fun e w' => e = .returned (.tuple #[.agg #[.map none, .slice none 0 0], .int .i64 er]) ∧ Below w.heap.size w w') :
    Calls Try.prog 8 #[v] w fun e w' => e = .returned (.tuple #[.string ⟨#[]⟩, .int .i64 er]) ∧ Below w.heap.size w w' := by
  go_enter Try.func8, Try.ntmps8
  go_wp2_with (go_at_call 17; refine hL.mono ?_; rintro e w1 ⟨rfl, hb1⟩)
  go_ret2
  exact ⟨rfl, hb1.trans ((below1 _ _).mono hb1.size)⟩

set_option maxRecDepth 100000 in
set_option maxHeartbeats 4000000 in
theorem assemble_ok {w : World} {ls : List Ln} {ao : Option Addr} {cap : Nat} {S : Nat → Bool} (h : IsLns w (.slice ao ls.length cap) ls) (h4 : 4 * atF S (insN ls) ≤ 1048576)
    (hL : Calls Try.prog 17 #[.slice ao ls.length cap] w fun e w' => ∃ mb ab, e = .returned (.tuple #[.agg #[.map (some mb), .slice (some ⟨ab, 0, none⟩) (insN ls + 1) (insN ls + 1)], .int .i64 0]) ∧ w.heap.size ≤ mb ∧ w.heap.size ≤ ab ∧ mb ≠ ab ∧ IsMapL w' mb ls.length (labL ls).length (labs ls) ∧ IsAt w' ab (insN ls + 1) (atF S) ∧ Below w.heap.size w w')
    (hlen : ls.length ≤ 262144) :
    Calls Try.prog 8 #[.slice ao ls.length cap] w fun e w' => e = .returned (.tuple #[.string (strL (codeGo (labs ls) S 0 ls)), .int .i64 0]) ∧ Below w.heap.size w w' := by
  obtain ⟨M, hMs, hmk⟩ := run_make50 (4 * atF S (insN ls)) (by omega)
  have hN := insN_le ls
  have hW18 : Hid (∀ (W : World) (mb ab : Nat), IsAt W ab (insN ls + 1) (atF S) → Calls Try.prog 18 #[.agg #[.map (some mb), .slice (some ⟨ab, 0, none⟩) (insN ls + 1) (insN ls + 1)]] W fun e w' => e = .returned (.int .i64 (atF S (insN ls) : Int)) ∧ Below W.heap.size W w') := fun W mb ab hr =>
    words18 (by omega) (by omega) (by simpa using World.rowIs.cell hr (i := insN ls) (by omega)) hr.lt
  have HL := hid' h
  clear h
  have hmk' : ∀ W : World, (Instr.makeSlice 50 (.int .i64 0) (.int .i64 (4 * (atF S (insN ls) : Int)))).run Try.prog W = .ok (.slice (some ⟨W.heap.size, 0, none⟩) 0 (4 * atF S (insN ls))) (W.alloc (.cells M 5)) := fun W => by
    have := hmk W
    rw [show ((4 * atF S (insN ls) : Nat) : Int) = 4 * (atF S (insN ls) : Int) by omega] at this
    exact this
  have iw : IntKind.i64.wrap (4 * (atF S (insN ls) : Int)) = 4 * (atF S (insN ls) : Int) := by simp [IntKind.wrap, IntKind.bits, IntKind.signed]; omega
  have hcl := codeGo_len (labs ls) S
  clear hmk
  go_enter Try.func8, Try.ntmps8
  go_wp2_with (first
    | (go_at_call 17; refine hL.mono ?_; rintro e w1 ⟨mb, ab, rfl, h1, h2, h3, hmp, hat, hb1⟩; have hat' := hat.alloc (.cells #[.map (some mb), .slice (some ⟨ab, 0, none⟩) (insN ls + 1) (insN ls + 1)] 47))
    | (go_at_call 18; refine (hW18.out _ mb ab hat').mono ?_; rintro e w2 ⟨rfl, hb2⟩))
  have B12 : Below w1.heap.size w1 w2 := below_call hb2
  have hst : AMid w w2.heap.size mb ab w1.heap.size ls S 0 (.slice (some ⟨w2.heap.size, 0, none⟩) 0 (4 * atF S (insN ls))) (.int .i64 0) (w2.alloc (.cells M 5)) := by
    have K2 : Kept (fun _ => False) w1 (w2.alloc (.cells M 5)) := (Kept.of_below B12).alloc _
    have hsz : w1.heap.size < w2.heap.size := by have := hb2.size; simp at this; omega
    refine ⟨?_, by simp [insN], ⟨hmp.kept K2 (fun e => e), K2.row hat (fun e => e), fun t p hp => by have := labs_le hp; omega, by omega⟩, ?_, ?_, by simp, Nat.lt_of_lt_of_le hmp.lt B12.size, Nat.lt_of_lt_of_le hat.lt B12.size, hsz, Nat.le_trans hb1.size B12.size, hb1.trans (K2.below hb1.size (fun _ e => e.elim))⟩
    · exact World.ownsRow_made _ _ _ (Nat.le_refl _) (by unfold maxLen; omega) (by rw [hMs]; omega)
    · have e := (below1 w2 (.cells M 5)).cell (p := ⟨w1.heap.size, 0, none⟩) hsz
      rw [e, hb2.cell (p := ⟨w1.heap.size, 0, none⟩) (by simp)]
      simp [go_sem]
    · have e := (below1 w2 (.cells M 5)).cell (p := ⟨w1.heap.size, 1, none⟩) hsz
      rw [e, hb2.cell (p := ⟨w1.heap.size, 1, none⟩) (by simp)]
      simp [go_sem]
  have HST := hid' hst
  clear hst hat hat' hmp hb1 hb2 B12 hmk' hL hMs
  generalize w2.heap.size = base at *
  generalize w1.heap.size = pb at *
  go_loopw [6, 7, 24] (fun v c i wr => ∃ k : Nat, k ≤ ls.length ∧ i = .int .i64 k ∧ AMid w base mb ab pb ls S k v c wr) (fun _ _ i _ => ls.length - (intOf i).toNat)
  case atStart => exact ⟨0, Nat.zero_le _, rfl, HST.out⟩
  case round =>
    obtain ⟨k, hk, rfl, hM⟩ := hrel
    by_cases hlt : k < ls.length
    · obtain ⟨b, rfl, hb, hA⟩ : ∃ b, ao = some ⟨b, 0, none⟩ ∧ b < w.heap.size ∧ LnsAt w b ls := by
        rcases HL.out.2.2 with ⟨e, _⟩ | ⟨_, b, cp, e, hb, hA⟩
        · rw [e] at hlt; simp at hlt
        · injection e with e1 e2 e3
          exact ⟨b, e1, hb, hA⟩
      obtain ⟨c0, c1, c2, c3, c4, c5, c6⟩ := hA.below (w' := wr) hM.below hb k hlt
      have hbr : b < wr.heap.size := Nat.lt_of_lt_of_le hb hM.below.size
      have hwx := HL.out.2.1 ls[k] (List.getElem_mem _)
      have hcnt := hM.cnt
      subst hcnt
      have hin := insN_le (ls.take k)
      have hin2 : (ls.take k).length ≤ k := by simp; omega
      have hink : insN (ls.take k) + insN [ls[k]] ≤ insN ls := by
        have : insN ls = insN (ls.take (k + 1)) + insN (ls.drop (k + 1)) := by rw [← insN_append, List.take_append_drop]
        rw [taken' ls k hlt, insN_append] at this
        omega
      have hone := codeGo_one (labs ls) S (insN (ls.take k)) ls[k]
      have hio := insN_one ls[k]
      have hcl2 := hcl (ls.take k) 0
      rw [atF_zero, Nat.zero_add] at hcl2
      have hmono := atF_mono S (show insN (ls.take k) ≤ insN ls by omega)
      have HM := hid' hM
      have p0 := hM.p0
      have p1 := hM.p1
      have hpr : pb < wr.heap.size := Nat.lt_of_lt_of_le hM.hp hM.sz
      have HO := hid' hone
      have HIO := hid' hio
      have HIN := hid' hink
      have HCL : Hid ((codeGo (labs ls) S 0 (ls.take k)).length ≤ 1048576) := by unfold Hid; omega
      clear hone hio hM hcl2 hmono hink
      generalize hx : ls[k] = x at *
      have HX := hid' hx
      have HWX := hid' hwx
      clear hx hwx
      generalize hcn : insN (ls.take k) = cn at *
      have HC := hid' hcn
      clear hcn
      by_cases hz : x.label = 0
      · have hI := isLabel19 x.label x.op x.d x.a x.b x.imm x.to
        rw [hz] at hI c0
        simp only [bne_self_eq_false] at hI
        have hkN : cn + 1 < insN ls + 1 := by have := HIN.out; rw [HIO.out, if_pos hz] at this; omega
        have hW : Hid (∀ W : World, Below wr.heap.size wr W → Calls Try.prog 20 #[.agg #[.map (some mb), .slice (some ⟨ab, 0, none⟩) (insN ls + 1) (insN ls + 1)], u6, .agg #[.int .i64 0, .int .i64 x.op, .int .i64 x.d, .int .i64 x.a, .int .i64 x.b, .int .i32 x.imm, .int .i64 x.to], .int .i64 (cn : Int)] W fun e w' => ∃ v', e = .returned v' ∧ w'.ownsRow base 5 1 v' (codeGo (labs ls) S 0 (ls.take k) ++ lineB (labs ls) S cn x).length (vals (codeGo (labs ls) S 0 (ls.take k) ++ lineB (labs ls) S cn x)) ∧ Kept (fun b => u6.ownBlock = some b) W w') := fun W hW => by
          have K : Kept (fun _ => False) wr W := Kept.of_below hW
          have hO := K.owns HM.out.own (fun _ _ e => e)
          have hP := HM.out.plan.kept K (fun e => e) (fun e => e)
          by_cases ht : x.to = 0
          · have e : lineB (labs ls) S cn x = wdL (wdI x.op x.d x.a x.b x.imm) := by unfold lineB; rw [if_pos ht]
            rw [e, ht]
            exact withLine_plain hO (by have := HCL.out; omega) (Nat.le_trans HM.out.sz hW.size)
          · have := withLine_to hP hO (by have := HCL.out; omega) (Nat.le_trans HM.out.sz hW.size) HM.out.hm HM.out.ha hkN ht HWX.out
            unfold Ln.val at this
            rw [hz] at this
            exact this
        go_wp2_with (first
          | (go_at_call 19; refine (hI _).mono ?_; rintro e w3 ⟨rfl, hb3⟩; obtain ⟨hc3, hf3⟩ := bcell hb3)
          | (go_at_call 20; refine (hW.out _ (below_call hb3)).mono ?_; rintro e w4 ⟨v4, rfl, ho4, hk4⟩))
        have hN' := HM.out.next hlt (k' := .int .i64 ((cn : Int) + 1)) (by rw [HX.out, HC.out, HIO.out, if_pos hz]; rfl) ((Kept.of_below (below_call hb3)).trans hk4) (by rw [HX.out, HC.out, HO.out, if_pos hz]; exact ho4)
        have HN := hid' hN'
        clear hN' ho4 hk4 hb3 hc3 hf3 c0 c1 c2 c3 c4 c5 c6 p0 p1
        go_roundw
        case rel => exact ⟨k + 1, by omega, by go_num, HN.out⟩
        case measure => simp [intOf]; omega
      · have e1 : (x.label != 0) = true := by simp [hz]
        have hI := isLabel19 x.label x.op x.d x.a x.b x.imm x.to
        rw [e1] at hI
        go_wp2_with (first
          | (go_at_call 19; refine (hI _).mono ?_; rintro e w3 ⟨rfl, hb3⟩; obtain ⟨hc3, hf3⟩ := bcell hb3))
        have K3 : Kept (fun b => u6.ownBlock = some b) wr w3 := Kept.of_below (below_call hb3)
        have hN' := HM.out.next hlt (k' := .int .i64 (cn : Int)) (by rw [HX.out, HC.out, HIO.out, if_neg hz]; rfl) K3 (by rw [HX.out, HC.out, HO.out, if_neg hz, List.append_nil]; exact (Kept.of_below (S := fun _ => False) (below_call hb3)).owns HM.out.own (fun _ _ e => e))
        have HN := hid' hN'
        clear hN' K3 hb3 hc3 hf3 c0 c1 c2 c3 c4 c5 c6 p0 p1
        go_roundw
        case rel => exact ⟨k + 1, by omega, by go_num, HN.out⟩
        case measure => simp [intOf]; omega
    · have : k = ls.length := by omega
      subst this
      have hO := hM.own
      rw [List.take_of_length_le (Nat.le_refl _)] at hO
      have hcv := conv_own hO
      have HB := hid' hM.below
      clear hM hO
      go_wp2
      go_ret2
      exact ⟨rfl, HB.out⟩

theorem err_len {ls : List Ln} (h : ErrIs ls 0) : ls.length ≤ 262144 := by
  rcases h with ⟨_, e⟩ | ⟨_, _, e⟩ | ⟨_, _, _, e⟩ | ⟨h1, _⟩
  · omega
  · omega
  · omega
  · exact h1

theorem ErrIs.ex (ls : List Ln) : ∃ er, ErrIs ls er := by
  by_cases h1 : 262144 < ls.length
  · exact ⟨3, .inl ⟨h1, rfl⟩⟩
  · by_cases h2 : ∃ x ∈ ls, x.ok = false
    · exact ⟨1, .inr (.inl ⟨by omega, h2, rfl⟩)⟩
    · have h2' : ∀ x ∈ ls, x.ok = true := fun x hx => by
        cases e : x.ok
        · exact absurd ⟨x, hx, e⟩ h2
        · rfl
      by_cases h3 : (labL ls).Nodup
      · by_cases h4 : ∃ x ∈ ls, x.to ≠ 0 ∧ x.to ∉ labL ls
        · exact ⟨60, .inr (.inr (.inl ⟨by omega, h2', .inr h4, rfl⟩))⟩
        · exact ⟨0, .inr (.inr (.inr ⟨by omega, h2', h3, fun x hx ht => Classical.byContradiction (fun hn => h4 ⟨x, hx, ht, hn⟩), rfl⟩))⟩
      · exact ⟨60, .inr (.inr (.inl ⟨by omega, h2', .inl h3, rfl⟩))⟩

theorem least_ex (bs : List Br) (hw : ∀ b ∈ bs, b.low ≤ b.high) : ∃ S, Least bs S := by
  refine ⟨fun p => @decide (∀ S', Closed bs S' → S' p = true) (Classical.propDecidable _), fun b hb hs => ?_, fun S' hS' p hp => ?_⟩
  · have hn : ¬ ∀ S', Closed bs S' → S' b.ix = true := @of_decide_eq_false _ (Classical.propDecidable _) hs
    obtain ⟨S', hn⟩ := Classical.not_forall.1 hn
    obtain ⟨hc, hn⟩ := Classical.not_imp.1 hn
    have h1 := hc b hb (by cases e : S' b.ix; rfl; exact absurd e hn)
    have h2 := range_mono (S := fun p => @decide (∀ S', Closed bs S' → S' p = true) (Classical.propDecidable _)) (S' := S') (fun p hp => (@of_decide_eq_true _ (Classical.propDecidable _) hp) S' hc) (hw b hb)
    omega
  · exact (@of_decide_eq_true _ (Classical.propDecidable _) hp) S' hS'
theorem least_ls (ls : List Ln) : ∃ S, Least (bsOf ls) S := least_ex _ fun b hb => by
  obtain ⟨y, hy, rfl⟩ := List.mem_map.1 hb
  exact (brGo_ok (labs ls) (insN ls) (fun t p hp => labs_le hp) ls 0 (by omega) y hy).1

theorem assemble8 {w : World} {v : Value} {ls : List Ln} (h : IsLns w v ls) : Calls Try.prog 8 #[v] w fun e w' => ∃ s er, e = .returned (.tuple #[.string s, .int .i64 er]) ∧ AsmIs ls s er ∧ Below w.heap.size w w' := by
  obtain ⟨er, hE⟩ := ErrIs.ex ls
  obtain ⟨ao, cap, rfl⟩ : ∃ ao cap, v = .slice ao ls.length cap := by
    rcases h.2.2 with ⟨rfl, ao, cap, rfl⟩ | ⟨_, b, cap, rfl, _⟩
    · exact ⟨_, _, rfl⟩
    · exact ⟨_, _, rfl⟩
  by_cases h0 : er = 0
  · subst h0
    obtain ⟨S, hS⟩ := least_ls ls
    by_cases h4 : 1048576 < 4 * atF S (insN ls)
    · refine (assemble_err (er := 3) (by omega) ((layOut17 h).mono ?_)).mono ?_
      · rintro e w' (⟨er', h1, h2, _⟩ | ⟨_, S', hS', ⟨_, rfl, hb⟩ | ⟨h5, _⟩⟩)
        · exact absurd (h1.unique hE) h2
        · exact ⟨rfl, hb⟩
        · rw [hS'.unique hS] at h5; omega
      · rintro e w' ⟨rfl, hb⟩
        exact ⟨_, _, rfl, .inr ⟨hE, S, hS, .inl ⟨h4, rfl, rfl⟩⟩, hb⟩
    · refine (assemble_ok (S := S) h (by omega) ((layOut17 h).mono ?_) (err_len hE)).mono ?_
      · rintro e w' (⟨er', h1, h2, _⟩ | ⟨_, S', hS', ⟨h5, _⟩ | ⟨h5, mb, ab, r⟩⟩)
        · exact absurd (h1.unique hE) h2
        · rw [hS'.unique hS] at h5; omega
        · rw [hS'.unique hS] at r
          exact ⟨mb, ab, r⟩
      · rintro e w' ⟨rfl, hb⟩
        exact ⟨_, _, rfl, .inr ⟨hE, S, hS, .inr ⟨by omega, rfl, rfl⟩⟩, hb⟩
  · refine (assemble_err h0 ((layOut17 h).mono ?_)).mono ?_
    · rintro e w' (⟨er', h1, h2, rfl, hb⟩ | ⟨h1, _⟩)
      · rw [h1.unique hE]; exact ⟨rfl, hb⟩
      · exact absurd (hE.unique h1) h0
    · rintro e w' ⟨rfl, hb⟩
      exact ⟨_, _, rfl, .inl ⟨hE, h0, rfl⟩, hb⟩
end Go.Proofs.Ytgnlplddppheiaa
