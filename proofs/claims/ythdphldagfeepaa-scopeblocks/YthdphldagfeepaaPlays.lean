/- ScopePlays's walk. -/
import Derived.Test.YthdphldagfeepaaPlay0
import Derived.Test.YthdphldagfeepaaFrame
import Derived.Test.YthdphldagfeepaaAwake
namespace Go.Proofs.Ythdphldagfeepaa
open Go.RowKit Go.Maps
set_option linter.unusedVariables false
set_option linter.unusedSimpArgs false

theorem play8 {w : World} {B C p q M n : Nat} {g : Blocks} {L : List Ent} {N : Int} (hS : Sc w B p M n g) (hR : Rc w C q L N) (a : Ac) (ha : a.ok) (hM : M ≤ 10000000000000) (h0 : 0 ≤ N) (h1 : N ≤ 8000000000000000000) (hl : L.length * 32 ≤ 140737488351232) :
    Calls Try.prog 8 #[.pointer (some ⟨p, 0, none⟩), .pointer (some ⟨q, 0, none⟩), .agg #[.int .i64 a.d, .string a.nm, .int .i64 a.x]] w (PlayOk w B C p q M n g L N a.d a.nm a.x) := by
  obtain ⟨d, s, x⟩ := a
  obtain ⟨hs, hx⟩ := ha
  dsimp only at *
  by_cases n0 : d = 0
  · subst n0
    obtain ⟨k, rfl⟩ : ∃ k, n = k + 1 := ⟨n - 1, by have := hS.hi; omega⟩
    exact play_0 hS hR hs hx hM hl
  by_cases n1 : d = 1
  · subst n1
    exact play_1 hS hR hM h0 h1
  by_cases n2 : d = 2
  · subst n2
    exact play_2 hS hR hM h1 hl
  by_cases n3 : d = 3
  · subst n3
    exact play_3 hS hR hs hM hl
  exact play_other hS hR n0 n1 n2 n3

theorem popR_len (L : List Ent) (N : Int) : (popR L N).length ≤ L.length := by
  refine snoc_ind (P := fun L => (popR L N).length ≤ L.length) (by simp [popR_nil]) (fun L e ih => ?_) L
  rw [popR_snoc]
  split
  · simp; omega
  · exact Nat.le_refl _
theorem stL_len (d : Int) (s : ByteArray) (x : Int) (L : List Ent) (N : Int) : (stL d s x L N).length ≤ L.length + 1 := by
  unfold stL rdL rlL
  split
  · split <;> simp
  · split
    · split
      · omega
      · have := popR_len L N; omega
    · omega

/-- Both scopes behind k acts, alike. -/
def Mid (w : World) (p q k : Nat) (wr : World) : Prop :=
  ∃ n g L, Sc wr w.heap.size p (k + 1) n g ∧ Rc wr w.heap.size q L n ∧ Rel g n L ∧ L.length ≤ k ∧ Below w.heap.size w wr

theorem play_mid {w wr : World} {p q k : Nat} (h : Mid w p q k wr) (a : Ac) (ha : a.ok) (hk : (k + 1) * 32 ≤ 140737488351232) :
    Calls Try.prog 8 #[.pointer (some ⟨p, 0, none⟩), .pointer (some ⟨q, 0, none⟩), .agg #[.int .i64 a.d, .string a.nm, .int .i64 a.x]] wr fun e w' => e = .returned (.bool true) ∧ Mid w p q (k + 1) w' := by
  obtain ⟨n, g, L, hS, hR, hr, hL, hb⟩ := h
  have hh := hS.hi
  refine (play8 hS hR a ha (by omega) (by omega) (by omega) (by omega)).mono ?_
  rintro e w' ⟨b, rfl, ht, hS', hR', hb'⟩
  have := ht (rel_told hr rfl hh.1)
  subst this
  obtain ⟨r1, r2⟩ := rel_step (d := a.d) (s := a.nm) (x := a.x) hr rfl hh.1
  rw [r2] at hR'
  refine ⟨rfl, _, _, _, hS', hR', r1, ?_, hb.trans (hb'.below hb.size (Nat.le_refl _))⟩
  have := stL_len a.d a.nm a.x L n
  omega

theorem Rc.base {w : World} {B B' q : Nat} {L : List Ent} {N : Int} (h : Rc w B q L N) (hb : B' ≤ B) : Rc w B' q L N := by
  obtain ⟨v, h1, h2, h3⟩ := h
  refine ⟨v, h1, ⟨h2.1, ?_⟩, Nat.le_trans hb h3⟩
  rcases h2.2 with h | ⟨g, cap, cur, e, hg, r⟩
  · exact .inl h
  · exact .inr ⟨g, cap, cur, e, Nat.le_trans hb hg, r⟩

/-- Both made. -/
theorem mid_made {w w1 : World} {p : Nat} (hS : Sc w1 w.heap.size p 1 1 (fun _ _ => none)) (hb : Below w.heap.size w w1) :
    Mid w p w1.heap.size 0 (w1.alloc (.cells #[.slice none 0 0, .int .i64 1] 33)) := by
  have h0 : Rc (w1.alloc (.cells #[.slice none 0 0, .int .i64 1] 33)) w1.heap.size w1.heap.size [] 1 := by
    refine ⟨.slice none 0 0, ?_, World.ownsRow_nil _ _ _ _, Nat.le_refl _⟩
    have := Deep.blk_alloc_new w1 (.cells #[.slice none 0 0, .int .i64 1] 33)
    simpa using this
  exact ⟨1, _, [], hS.below (box_below _ _), h0.base hb.size, rel_start, Nat.le_refl _, hb.trans ((box_below _ _).mono hb.size)⟩

set_option maxHeartbeats 8000000 in
theorem plays3 {w : World} {v : Value} {l : List Ac} (h : Src Ac.cells w v l) (hok : ∀ a ∈ l, a.ok) (hl : l.length * 32 ≤ 140737488351232) :
    Calls Try.prog 3 #[v] w fun e w' => e = .returned (.bool true) ∧ Below w.heap.size w w' := by
  obtain ⟨ao, cap, rfl, hf⟩ := h.form ac3
  have HF := hid' hf
  have HO := hid' hok
  have hll : l.length ≤ 140737488351232 := by omega
  have HL := hid' hl
  clear hf h hok hl
  go_enter Try.func3, Try.ntmps3
  go_wp2_with (first
    | (go_at_call 6; refine (new6 w).mono ?_; rintro e1 w1 ⟨rfl, hS1, hB1⟩; replace hS1 := hid' hS1; replace hB1 := hid' hB1)
    | (go_at_call 7; refine (rnew7 _).mono ?_; rintro e2 w2 ⟨rfl, hR2, hw2⟩; subst hw2; clear hR2; have hM := hid' (mid_made hS1.out hB1.out)))
  go_loopw [5] (fun i wr => ∃ k : Nat, k ≤ l.length ∧ i = .int .i64 k ∧ Mid w (w.heap.size + 1) w1.heap.size k wr) (fun i _ => l.length - (intOf i).toNat)
  case atStart => exact ⟨0, Nat.zero_le _, rfl, hM.out⟩
  case round =>
    obtain ⟨k, hk, rfl, hmid⟩ := hrel
    have HM := hid' hmid
    clear hmid
    by_cases hlt : k < l.length
    · obtain ⟨b, off, rfl, hbl, hcp, hc⟩ := HF.out k hlt
      have hB : Below w.heap.size w wr := by obtain ⟨_, _, _, _, _, _, _, hb⟩ := HM.out; exact hb
      obtain ⟨c0, c1, c2⟩ := ac_cells (hc wr.drew hB.drew)
      have HP := hid' (play_mid (wr := wr.drew) (by obtain ⟨n, g, L, h1, h2, h3, h4, h5⟩ := HM.out; exact ⟨n, g, L, h1.below (Below.refl _ _).drew, h2.below (Below.refl _ _).drew, h3, h4, h5.drew⟩ : Mid w (w.heap.size + 1) w1.heap.size k wr.drew) l[k] (HO.out _ (List.getElem_mem hlt)) (by have := HL.out; omega))
      clear hc hB
      generalize l[k] = a at *
      obtain ⟨d, s, x⟩ := a
      dsimp only at *
      go_wp2
      go_region_with (first
        | (go_at_call 8; (with_reducible refine (HP.out).mono ?_); rintro e3 w3 ⟨rfl, hM3⟩; have hM3' := hid' hM3; obtain ⟨n3, g3, L3, hS3, hR3, _⟩ := hM3; have hq3 : w3.cell? ⟨w1.heap.size, 1, none⟩ = some (.int .i64 n3) := (by obtain ⟨v3, hv⟩ := hR3; exact hv.c1); have H9 := hid' (depth9' hS3); clear hR3; replace hS3 := hid' hS3)
        | (go_at_call 9; (with_reducible refine (H9.out).mono ?_); rintro e4 w4 ⟨rfl, hw⟩; have hv := hw.symm; clear hw; subst hv))
      all_goals
        go_wp2
        go_roundw
        case rel => exact ⟨k + 1, by omega, by go_num, hM3'.out⟩
        case measure => simp [intOf]; omega
    · have e : k = l.length := by omega
      subst e
      obtain ⟨n, g, L, hS, hR, hr, hL, hb⟩ := HM.out
      have hlL : L.length * 32 ≤ 140737488351232 := by have := HL.out; omega
      have hM' : l.length + 1 ≤ 10000000000000 := by have := HL.out; omega
      have HS := hid' hS
      have HR := hid' hR
      have HE := hid' hr
      have HB := hid' hb
      clear hS hR hr hb HM hM hS1 hB1
      go_wp2
      generalize w1.heap.size = q at *
      go_loop [6] (fun i => ∃ k : Nat, k ≤ l.length ∧ i = .int .i64 k) (fun i => l.length - (intOf i).toNat)
      case atStart => exact ⟨0, Nat.zero_le _, rfl⟩
      case round =>
        obtain ⟨k, hk, rfl⟩ := hrel
        by_cases hlt : k < l.length
        · obtain ⟨b, off, rfl, hbl, hcp, hc⟩ := HF.out k hlt
          obtain ⟨c0, c1, c2⟩ := ac_cells (hc wr HB.out)
          have H10 := hid' (find10' HS.out l[k].nm (HO.out _ (List.getElem_mem hlt)).1 hM')
          have H11 := hid' (rfind11' HR.out l[k].nm hlL)
          rw [rel_find HE.out] at H10
          unfold retF at H10 H11
          clear hc
          generalize (lastF L l[k].nm).getD 0 = a0 at *
          generalize (lastF L l[k].nm).isSome = a1 at *
          generalize l[k] = a at *
          obtain ⟨d, s, x⟩ := a
          dsimp only at *
          go_wp2_with (first
            | (go_at_call 10; refine (H10.out).mono ?_; rintro e1 w1 ⟨rfl, hw⟩; have hv := hw.symm; clear hw; subst hv)
            | (go_at_call 11; refine (H11.out).mono ?_; rintro e2 w2 ⟨rfl, hw⟩; have hv := hw.symm; clear hw; subst hv))
          go_round
          case rel => exact ⟨k + 1, by omega, by go_num⟩
          case measure => simp [intOf]; omega
        · go_wp2_with (go_at_call 12; refine (awake12 _).mono ?_; rintro e3 w3 ⟨rfl, hb3⟩)
          go_ret
          exact ⟨rfl, HB.out.trans (hb3.mono HB.out.size)⟩
end Go.Proofs.Ythdphldagfeepaa
