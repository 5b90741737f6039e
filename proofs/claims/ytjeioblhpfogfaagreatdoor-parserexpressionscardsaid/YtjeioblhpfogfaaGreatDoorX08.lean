/- The token that a text begins with, by the program. -/
import Derived.Test.YtjeioblhpfogfaaGreatDoorX03
import Derived.Test.YtjeioblhpfogfaaGreatDoorX04
import Derived.Test.YtjeioblhpfogfaaGreatDoorX05
import Derived.Test.YtjeioblhpfogfaaGreatDoorX06
import Derived.Test.YtjeioblhpfogfaaGreatDoorX07
set_option linter.unusedVariables false
set_option linter.unusedSimpArgs false
set_option maxRecDepth 20000
set_option maxHeartbeats 8000000
namespace Go.Proofs.YtjeioblhpfogfaaGreatDoorLx
open Go.RowKit

theorem digits53' (s : ByteArray) (f base v n : Nat) (hb : base ≤ 16) (hf : f ≤ s.size) (hs : s.size < 4611686018427387904) (hv : v = (digG base 0 ((lst s).drop f)).1) (hn : n = f + (digG base 0 ((lst s).drop f)).2) (w : World) :
    Calls Tryz.prog 217 #[.string s, .int .i64 (f : Int), .int .u64 (base : Int)] w fun e w' => e = .returned (.tuple #[.int .u64 (v : Nat), .int .i64 (n : Nat)]) ∧ w' = w := by
  subst hv hn
  exact digits53 s f base hb hf hs w

theorem number37 (s : ByteArray) (hs : s.size < 4294967281) (h0 : 0 < s.size) (w : World) :
    Calls Tryz.prog 173 #[.string s] w fun e w' => e = .returned (readV (numF (lst s))) ∧ Below w.heap.size w w' := by
  have hlen := lst_len s
  have p1 := fun w => hasPrefix34 s ⟨#[48, 120]⟩ [48, 120] rfl w
  have p2 := fun w => hasPrefix34 s ⟨#[48, 88]⟩ [48, 88] rfl w
  have hh : headIs (fun c => decide (c.toNat = 48)) (lst s) = decide (s[0].toNat = 48) := by rw [lst_cons0 s h0]; rfl
  have room : ∀ a b : UInt8, [a, b].isPrefixOf (lst s) = true → 2 ≤ s.size := fun a b h => by
    have h2 := (List.isPrefixOf_iff_prefix.1 h).length_le
    rw [hlen] at h2
    exact h2
  have d10 : (digG 10 0 ((lst s).drop 0)).2 ≤ s.size := by have := digG_le 10 0 ((lst s).drop 0); rw [List.length_drop] at this; omega
  have hX16 : isX (lst s) = true → 2 ≤ s.size → numF (lst s) = if (2 + (digG 16 0 ((lst s).drop 2)).2) = 2 ∨ 4294967296 ≤ (digG 16 0 ((lst s).drop 2)).1 then none else numEnd (digG 16 0 ((lst s).drop 2)).1 (2 + (digG 16 0 ((lst s).drop 2)).2) (lst s) := fun h h2 => by
    unfold numF
    rw [if_pos h]
    simp only [numAt]
    congr 1
    apply propext
    simp
  have d16 : 2 ≤ s.size → 2 + (digG 16 0 ((lst s).drop 2)).2 ≤ s.size := fun h => by have := digG_le 16 0 ((lst s).drop 2); rw [List.length_drop] at this; omega
  have v16 := digG_bound 16 0 ((lst s).drop 2) (by omega)
  have v10 := digG_bound 10 0 ((lst s).drop 0) (by omega)
  cases h1 : [48, 120].isPrefixOf (lst s)
  · cases h2 : [48, 88].isPrefixOf (lst s)
    · rw [h1] at p1
      rw [h2] at p2
      have hx : isX (lst s) = false := by unfold isX; rw [h1, h2]; rfl
      have hc := digits53' s 0 10 _ _ (by omega) (by omega) (by omega) rfl rfl
      refine number37_A s _ _ (by omega) h0 (by omega) v10 p1 p2 hc _ ?_ w
      unfold numF
      rw [if_neg (by rw [hx]; simp)]
      simp only [numAt, hh]
      congr 1
      apply propext
      simp
    · rw [h1] at p1
      rw [h2] at p2
      have hr := room _ _ h2
      have hc := digits53' s 2 16 _ _ (by omega) (by omega) (by omega) rfl rfl
      exact number37_C s _ _ (by omega) h0 (d16 hr) v16 p1 p2 hc _ (hX16 (by unfold isX; rw [h2]; simp) hr) w
  · rw [h1] at p1
    have hr := room _ _ h1
    have hc := digits53' s 2 16 _ _ (by omega) (by omega) (by omega) rfl rfl
    exact number37_B s _ _ (by omega) h0 (d16 hr) v16 p1 hc _ (hX16 (by unfold isX; rw [h1]; rfl) hr) w

theorem numEnd_len {v n : Nat} {l : List UInt8} {t : Tok} {m : Nat} (h : numEnd v n l = some (t, m)) (hn : n ≤ l.length) : t.kind = 5 ∧ n ≤ m ∧ m ≤ l.length := by
  unfold numEnd at h
  by_cases hu : headIs isU (l.drop n) = true
  · have : n < l.length := by
      rcases Nat.lt_or_ge n l.length with h | h
      · exact h
      · rw [List.drop_eq_nil_of_le h] at hu; cases hu
    rw [if_pos hu] at h
    dsimp only at h
    split at h
    · cases h
    · simp at h; obtain ⟨rfl, rfl⟩ := h; exact ⟨rfl, by omega, by omega⟩
  · rw [if_neg hu] at h
    dsimp only at h
    split at h
    · cases h
    · simp at h; obtain ⟨rfl, rfl⟩ := h; exact ⟨rfl, by omega, by omega⟩
theorem numAt_len {b f : Nat} {l : List UInt8} {t : Tok} {m : Nat} (h : numAt b f l = some (t, m)) (hf : f ≤ l.length) : t.kind = 5 ∧ 1 ≤ m ∧ m ≤ l.length := by
  unfold numAt at h
  simp only at h
  split at h
  · cases h
  · rename_i hh
    have h1 := digG_le b 0 (l.drop f)
    rw [List.length_drop] at h1
    have := numEnd_len h (by omega)
    omega
/-- A token that is read: what kind, how long. -/
theorem readF_len {l : List UInt8} {t : Tok} {n : Nat} (h : readF l = some (t, n)) : 1 ≤ t.kind ∧ n ≤ l.length ∧ (t.kind = 1 ↔ l = []) ∧ (l ≠ [] → 1 ≤ n) := by
  match l, h with
  | [], h =>
    simp [readF] at h
    obtain ⟨rfl, rfl⟩ := h
    simp
  | c :: r, h =>
    have key : 2 ≤ t.kind ∧ 1 ≤ n ∧ n ≤ (c :: r).length := by
      simp only [readF] at h
      split at h
      · unfold numF at h
        split at h
        · rename_i hx
          have h2 : 2 ≤ (c :: r).length := by
            unfold isX at hx
            rw [Bool.or_eq_true] at hx
            rcases hx with h3 | h3
            · exact (List.isPrefixOf_iff_prefix.1 h3).length_le
            · exact (List.isPrefixOf_iff_prefix.1 h3).length_le
          have := numAt_len h h2
          omega
        · have := numAt_len h (Nat.zero_le _)
          omega
      · split at h
        · rename_i hn
          simp only [nameF, Option.some.injEq, Prod.mk.injEq] at h
          obtain ⟨rfl, rfl⟩ := h
          refine ⟨?_, ?_, (List.takeWhile_prefix nm).length_le⟩
          · show 2 ≤ (if _ then 3 else 2); split <;> omega
          · rw [tw_yes hn]; omega
        · split at h
          · unfold charF at h
            split at h
            · cases h
            · rename_i b m hu
              split at h
              · rename_i hp
                simp only [Option.some.injEq, Prod.mk.injEq] at h
                obtain ⟨rfl, rfl⟩ := h
                have h2 := (List.isPrefixOf_iff_prefix.1 hp).length_le
                rw [List.length_drop] at h2
                simp only [List.length_cons, List.length_nil] at h2 ⊢
                omega
              · cases h
          · split at h
            · unfold textF at h
              split at h
              · rename_i hp
                simp only [Option.some.injEq, Prod.mk.injEq] at h
                obtain ⟨rfl, rfl⟩ := h
                have h2 := (List.isPrefixOf_iff_prefix.1 hp).length_le
                rw [List.length_drop] at h2
                simp only [List.length_cons, List.length_nil] at h2 ⊢
                omega
              · cases h
            · unfold markF at h
              split at h
              · simp only [Option.some.injEq, Prod.mk.injEq] at h
                obtain ⟨rfl, rfl⟩ := h
                simp
                omega
              · split at h
                · simp only [Option.some.injEq, Prod.mk.injEq] at h
                  obtain ⟨rfl, rfl⟩ := h
                  simp
                  omega
                · split at h
                  · simp only [Option.some.injEq, Prod.mk.injEq] at h
                    obtain ⟨rfl, rfl⟩ := h
                    simp
                  · cases h
    refine ⟨by omega, key.2.2, ⟨fun e => by omega, fun e => by cases e⟩, fun _ => key.2.1⟩

theorem readV_form (X : Option (Tok × Nat)) : ∃ (k : Int) (t : ByteArray) (m : Int) (u : Bool) (n : Int), readV X = .tuple #[.agg #[.int .i64 k, .string t, .int .u32 m, .bool u, .int .i64 0, .int .i64 0], .int .i64 n] := by
  match X with
  | none => exact ⟨_, _, _, _, _, rfl⟩
  | some (t, n) => exact ⟨_, _, _, _, _, rfl⟩

theorem read22_nil (w : World) : Calls Tryz.prog 120 #[.string ⟨#[]⟩] w fun e w' => e = .returned (readV (readF [])) ∧ Below w.heap.size w w' := by
  go_enter Tryz.func120, Tryz.ntmps120
  go_wp2
  exact bodyPost_ret (v := readV (readF [])) (by simp [results, Tryz.results120, go_sem, readV, readF, tokV, strL]) rfl ⟨rfl, below_box _ _⟩

theorem read22_one (s : ByteArray) (h0 : 0 < s.size) (X : Option (Tok × Nat)) (f : FuncId)
    (hc : ∀ w, Calls Tryz.prog f #[.string s] w fun e w' => e = .returned (readV X) ∧ Below w.heap.size w w')
    (hf : (f = 173 ∧ dig s[0] = true) ∨ (f = 175 ∧ dig s[0] = false ∧ nm s[0] = true) ∨ (f = 176 ∧ dig s[0] = false ∧ nm s[0] = false ∧ s[0].toNat = 39) ∨ (f = 177 ∧ dig s[0] = false ∧ nm s[0] = false ∧ s[0].toNat = 34) ∨
      (f = 178 ∧ dig s[0] = false ∧ nm s[0] = false ∧ ¬ s[0].toNat = 39 ∧ ¬ s[0].toNat = 34)) (w : World) :
    Calls Tryz.prog 120 #[.string s] w fun e w' => e = .returned (readV X) ∧ Below w.heap.size w w' := by
  obtain ⟨k, t, m, u, n, hX⟩ := readV_form X
  rw [hX] at hc ⊢
  clear hX
  have hne := nonempty h0
  have h0' : (0 : Int) < s.size := by omega
  rcases hf with ⟨rfl, a1⟩ | ⟨rfl, a1, a2⟩ | ⟨rfl, a1, a2, a3⟩ | ⟨rfl, a1, a2, a3⟩ | ⟨rfl, a1, a2, a3, a4⟩
  · go_enter Tryz.func120, Tryz.ntmps120
    go_wp2_with (first
      | (go_at_call 172; refine (isDigit25 _ _).mono ?_; rintro e w1 ⟨rfl, rfl⟩)
      | (go_at_call 174; refine (isInName26 _ _).mono ?_; rintro e w1 ⟨rfl, rfl⟩)
      | (go_at_call 173; (with_reducible refine (hc _).mono ?_); rintro e w1 ⟨rfl, hb1⟩; obtain ⟨⟨k0, k1, k2, k3, k4, k5⟩, hz, hB, hlz⟩ := zkept hb1; have z0 := hz 0; have z1 := hz 1; have z2 := hz 2; have z3 := hz 3; have z4 := hz 4; have z5 := hz 5; clear hz))
    exact bodyPost_ret (v := .tuple #[.agg #[.int .i64 k, .string t, .int .u32 m, .bool u, .int .i64 0, .int .i64 0], .int .i64 n]) (by simp [results, Tryz.results120, go_sem, k0, k1, k2, k3, k4, k5]) rfl ⟨rfl, below_set6 hB _ _ _ _ _ _⟩
  · go_enter Tryz.func120, Tryz.ntmps120
    go_wp2_with (first
      | (go_at_call 172; refine (isDigit25 _ _).mono ?_; rintro e w1 ⟨rfl, rfl⟩)
      | (go_at_call 174; refine (isInName26 _ _).mono ?_; rintro e w1 ⟨rfl, rfl⟩)
      | (go_at_call 175; (with_reducible refine (hc _).mono ?_); rintro e w1 ⟨rfl, hb1⟩; obtain ⟨⟨k0, k1, k2, k3, k4, k5⟩, hz, hB, hlz⟩ := zkept hb1; have z0 := hz 0; have z1 := hz 1; have z2 := hz 2; have z3 := hz 3; have z4 := hz 4; have z5 := hz 5; clear hz))
    exact bodyPost_ret (v := .tuple #[.agg #[.int .i64 k, .string t, .int .u32 m, .bool u, .int .i64 0, .int .i64 0], .int .i64 n]) (by simp [results, Tryz.results120, go_sem, k0, k1, k2, k3, k4, k5]) rfl ⟨rfl, below_set6 hB _ _ _ _ _ _⟩
  · have a3' : ((s[0].toNat : Int) == 39) = true := by simp; omega
    clear a3
    go_enter Tryz.func120, Tryz.ntmps120
    go_wp2_with (first
      | (go_at_call 172; refine (isDigit25 _ _).mono ?_; rintro e w1 ⟨rfl, rfl⟩)
      | (go_at_call 174; refine (isInName26 _ _).mono ?_; rintro e w1 ⟨rfl, rfl⟩)
      | (go_at_call 176; (with_reducible refine (hc _).mono ?_); rintro e w1 ⟨rfl, hb1⟩; obtain ⟨⟨k0, k1, k2, k3, k4, k5⟩, hz, hB, hlz⟩ := zkept hb1; have z0 := hz 0; have z1 := hz 1; have z2 := hz 2; have z3 := hz 3; have z4 := hz 4; have z5 := hz 5; clear hz))
    exact bodyPost_ret (v := .tuple #[.agg #[.int .i64 k, .string t, .int .u32 m, .bool u, .int .i64 0, .int .i64 0], .int .i64 n]) (by simp [results, Tryz.results120, go_sem, k0, k1, k2, k3, k4, k5]) rfl ⟨rfl, below_set6 hB _ _ _ _ _ _⟩
  · have a3' : ((s[0].toNat : Int) == 39) = false := by simp; omega
    have a4' : ((s[0].toNat : Int) == 34) = true := by simp; omega
    clear a3
    go_enter Tryz.func120, Tryz.ntmps120
    go_wp2_with (first
      | (go_at_call 172; refine (isDigit25 _ _).mono ?_; rintro e w1 ⟨rfl, rfl⟩)
      | (go_at_call 174; refine (isInName26 _ _).mono ?_; rintro e w1 ⟨rfl, rfl⟩)
      | (go_at_call 177; (with_reducible refine (hc _).mono ?_); rintro e w1 ⟨rfl, hb1⟩; obtain ⟨⟨k0, k1, k2, k3, k4, k5⟩, hz, hB, hlz⟩ := zkept hb1; have z0 := hz 0; have z1 := hz 1; have z2 := hz 2; have z3 := hz 3; have z4 := hz 4; have z5 := hz 5; clear hz))
    exact bodyPost_ret (v := .tuple #[.agg #[.int .i64 k, .string t, .int .u32 m, .bool u, .int .i64 0, .int .i64 0], .int .i64 n]) (by simp [results, Tryz.results120, go_sem, k0, k1, k2, k3, k4, k5]) rfl ⟨rfl, below_set6 hB _ _ _ _ _ _⟩
  · have a3' : ((s[0].toNat : Int) == 39) = false := by simp; omega
    have a4' : ((s[0].toNat : Int) == 34) = false := by simp; omega
    clear a3 a4
    go_enter Tryz.func120, Tryz.ntmps120
    go_wp2_with (first
      | (go_at_call 172; refine (isDigit25 _ _).mono ?_; rintro e w1 ⟨rfl, rfl⟩)
      | (go_at_call 174; refine (isInName26 _ _).mono ?_; rintro e w1 ⟨rfl, rfl⟩)
      | (go_at_call 178; (with_reducible refine (hc _).mono ?_); rintro e w1 ⟨rfl, hb1⟩; obtain ⟨⟨k0, k1, k2, k3, k4, k5⟩, hz, hB, hlz⟩ := zkept hb1; have z0 := hz 0; have z1 := hz 1; have z2 := hz 2; have z3 := hz 3; have z4 := hz 4; have z5 := hz 5; clear hz))
    exact bodyPost_ret (v := .tuple #[.agg #[.int .i64 k, .string t, .int .u32 m, .bool u, .int .i64 0, .int .i64 0], .int .i64 n]) (by simp [results, Tryz.results120, go_sem, k0, k1, k2, k3, k4, k5]) rfl ⟨rfl, below_set6 hB _ _ _ _ _ _⟩

theorem read22 (s : ByteArray) (hs : s.size < 4294967281) (w : World) : Calls Tryz.prog 120 #[.string s] w fun e w' => e = .returned (readV (readF (lst s))) ∧ Below w.heap.size w w' := by
  by_cases h0 : 0 < s.size
  · have hl := lst_cons0 s h0
    have hr : readF (lst s) = if dig s[0] then numF (lst s) else if nm s[0] then nameF (lst s) else if s[0].toNat = 39 then charF (lst s) else if s[0].toNat = 34 then textF (lst s) else markF (lst s) := by
      rw [hl]; rfl
    cases hd : dig s[0]
    · cases hn : nm s[0]
      · by_cases h39 : s[0].toNat = 39
        · rw [hr, hd, hn, if_neg (by simp), if_neg (by simp), if_pos h39]
          exact read22_one s h0 _ 176 (fun w => character39 s (by omega) h0 h39 w) (.inr (.inr (.inl ⟨rfl, hd, hn, h39⟩))) w
        · by_cases h34 : s[0].toNat = 34
          · rw [hr, hd, hn, if_neg (by simp), if_neg (by simp), if_neg h39, if_pos h34]
            exact read22_one s h0 _ 177 (fun w => text40 s hs h0 h34 w) (.inr (.inr (.inr (.inl ⟨rfl, hd, hn, h34⟩)))) w
          · rw [hr, hd, hn, if_neg (by simp), if_neg (by simp), if_neg h39, if_neg h34]
            exact read22_one s h0 _ 178 (fun w => mark41 isMark56 s hs h0 w) (.inr (.inr (.inr (.inr ⟨rfl, hd, hn, h39, h34⟩)))) w
      · rw [hr, hd, hn, if_neg (by simp), if_pos rfl]
        exact read22_one s h0 _ 175 (fun w => name38 reserved15 s hs h0 hn w) (.inr (.inl ⟨rfl, hd, hn⟩)) w
    · rw [hr, hd, if_pos rfl]
      exact read22_one s h0 _ 173 (fun w => number37 s hs h0 w) (.inl ⟨rfl, hd⟩) w
  · obtain rfl := empty_eq h0
    exact read22_nil w
end Go.Proofs.YtjeioblhpfogfaaGreatDoorLx
namespace Go.Proofs.YtjeioblhpfogfaaGreatDoorLx
open Go.RowKit

/-- What Next tells of the rest of a text behind a place. -/
def nextV (k : Nat) : Except Nat (Tok × Nat × Nat) → Value
  | .error p => .tuple #[zeroV, .int .i64 ((k + p : Nat) : Int), .int .i64 70]
  | .ok (t, a, b) => .tuple #[tokV t ((k + a : Nat) : Int) ((k + b : Nat) : Int), .int .i64 0, .int .i64 0]
/-- internal/bytealg.MaxLen holds some number. -/
def HM (m : Int) (w : World) : Prop := w.cell? ⟨1, 0, none⟩ = some (.int .i64 m)
theorem HM.pos {m : Int} {w : World} (h : HM m w) : 1 < w.heap.size := by
  rcases Nat.lt_or_ge 1 w.heap.size with e | e
  · exact e
  · unfold HM World.cell? at h
    rw [show w.heap[1]? = none from Array.getElem?_eq_none (by omega)] at h
    simp at h
theorem HM.below {m : Int} {w w' : World} (h : HM m w) (hb : Below w.heap.size w w') : HM m w' := by
  unfold HM
  rw [hb.cell (p := ⟨1, 0, none⟩) h.pos]
  exact h
theorem HM.alloc {m : Int} {w : World} (h : HM m w) (o : Obj) : HM m (w.alloc o) := h.below (below_box w o)

theorem next_bad {l : List UInt8} {g : Nat} (h : gap l = (g, false)) : nextF l = .error g := by unfold nextF; rw [h]; rfl
theorem next_none {l : List UInt8} {g : Nat} (h : gap l = (g, true)) (hr : readF (l.drop g) = none) : nextF l = .error g := by
  unfold nextF; rw [h]; simp only [if_pos]; rw [hr]
theorem next_some {l : List UInt8} {g n : Nat} {t : Tok} (h : gap l = (g, true)) (hr : readF (l.drop g) = some (t, n)) : nextF l = .ok (t, g, g + n) := by
  unfold nextF; rw [h]; simp only [if_pos]; rw [hr]

theorem next9 (s : ByteArray) (k : Nat) (hk : k ≤ s.size) (hs : s.size < 4294967281) (m : Int) (w : World) (hm : HM m w) :
    Calls Tryz.prog 71 #[.string s, .int .i64 (k : Int)] w fun e w' => e = .returned (nextV k (nextF ((lst s).drop k))) ∧ Below w.heap.size w w' := by
  have hk' : (k : Int) ≤ s.size := by omega
  have hlen := lst_len s
  have hsk := skip21 s k hk hs m _ (hm.alloc box0)
  have hgl := gap_len ((lst s).drop k)
  rw [List.length_drop, hlen] at hgl
  obtain ⟨g, b, hg⟩ : ∃ g b, gap ((lst s).drop k) = (g, b) := ⟨_, _, rfl⟩
  rw [hg] at hsk hgl
  obtain ⟨p, hp⟩ : ∃ p, p = k + g := ⟨_, rfl⟩
  simp only [← hp] at hsk
  have hps : (p : Int) ≤ s.size := by simp only at hgl; omega
  replace hp := hid hp
  cases b
  · have hN := next_bad hg
    generalize nextF ((lst s).drop k) = N at hN ⊢
    subst hN
    go_enter Tryz.func71, Tryz.ntmps71
    go_wp2_with (go_at_call 119; (with_reducible refine hsk.mono ?_); rintro e w1 ⟨rfl, rfl⟩)
    refine bodyPost_ret (v := .tuple #[zeroV, .int .i64 (p : Int), .int .i64 70]) (by simp [results, Tryz.results71, go_sem, zeroV]) rfl ⟨?_, below_box _ _⟩
    rw [hp.out]; rfl
  · have hrd := fun w => read22 (s.extract p s.size) (by rw [ext_size]; omega) w
    rw [lst_ext] at hrd
    have hd : (lst s).drop p = ((lst s).drop k).drop g := by rw [List.drop_drop, hp.out]
    cases hR : readF ((lst s).drop p) with
    | none =>
      rw [hR] at hrd
      rw [hd] at hR
      have hN := next_none hg hR
      generalize nextF ((lst s).drop k) = N at hN ⊢
      subst hN
      clear hd hR
      simp only [readV, zeroV] at hrd
      go_enter Tryz.func71, Tryz.ntmps71
      go_wp2_with (first
        | (go_at_call 119; (with_reducible refine hsk.mono ?_); rintro e w1 ⟨rfl, rfl⟩)
        | (go_at_call 120; (with_reducible refine (hrd _).mono ?_); rintro e w1 ⟨rfl, hb1⟩; obtain ⟨⟨k0, k1, k2, k3, k4, k5⟩, hz, hB, hlz⟩ := zkept hb1; have z0 := hz 0; have z1 := hz 1; have z2 := hz 2; have z3 := hz 3; have z4 := hz 4; have z5 := hz 5; clear hz))
      refine bodyPost_ret (v := .tuple #[zeroV, .int .i64 (p : Int), .int .i64 70]) (by simp [results, Tryz.results71, go_sem, zeroV, k0, k1, k2, k3, k4, k5, hlz]) rfl ⟨?_, below_set6a hB _ _ _ _ _ _ _⟩
      rw [hp.out]; rfl
    | some q =>
      obtain ⟨t, n⟩ := q
      rw [hR] at hrd
      have hRl := readF_len hR
      rw [List.length_drop, hlen] at hRl
      rw [hd] at hR
      have hN := next_some hg hR
      generalize nextF ((lst s).drop k) = N at hN ⊢
      subst hN
      have hkind : ((t.kind : Int) == 0) = false := by simp; omega
      have hn2 : n ≤ s.size - p := hRl.2.1
      clear hd hR hRl
      simp only [readV, tokV] at hrd
      go_enter Tryz.func71, Tryz.ntmps71
      go_wp2_with (first
        | (go_at_call 119; (with_reducible refine hsk.mono ?_); rintro e w1 ⟨rfl, rfl⟩)
        | (go_at_call 120; (with_reducible refine (hrd _).mono ?_); rintro e w1 ⟨rfl, hb1⟩; obtain ⟨⟨k0, k1, k2, k3, k4, k5⟩, hz, hB, hlz⟩ := zkept hb1; have z0 := hz 0; have z1 := hz 1; have z2 := hz 2; have z3 := hz 3; have z4 := hz 4; have z5 := hz 5; clear hz))
      refine bodyPost_ret (v := .tuple #[tokV t (p : Int) ((p : Int) + n), .int .i64 0, .int .i64 0]) (by simp [results, Tryz.results71, go_sem, tokV, k0, k1, k2, k3, k4, k5, hlz]) rfl ⟨?_, below_set6a hB _ _ _ _ _ _ _⟩
      rw [show (p : Int) + n = ((p + n : Nat) : Int) by omega, hp.out, Nat.add_assoc]; rfl
end Go.Proofs.YtjeioblhpfogfaaGreatDoorLx
