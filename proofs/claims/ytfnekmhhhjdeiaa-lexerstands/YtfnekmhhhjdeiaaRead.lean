/- The token that a text begins with, by the program. -/
import Derived.Test.YtfnekmhhhjdeiaaWord
import Derived.Test.YtfnekmhhhjdeiaaName
import Derived.Test.YtfnekmhhhjdeiaaNumA
import Derived.Test.YtfnekmhhhjdeiaaNumB
import Derived.Test.YtfnekmhhhjdeiaaNumC
namespace Go.Proofs.Ytfnekmhhhjdeiaa
open Go.RowKit
set_option linter.unusedVariables false

theorem digits53' (s : ByteArray) (f base v n : Nat) (hb : base ≤ 16) (hf : f ≤ s.size) (hs : s.size < 4611686018427387904) (hv : v = (digG base 0 ((lst s).drop f)).1) (hn : n = f + (digG base 0 ((lst s).drop f)).2) (w : World) :
    Calls Try.prog 53 #[.string s, .int .i64 (f : Int), .int .u64 (base : Int)] w fun e w' => e = .returned (.tuple #[.int .u64 (v : Nat), .int .i64 (n : Nat)]) ∧ w' = w := by
  subst hv hn
  exact digits53 s f base hb hf hs w

theorem number37 (s : ByteArray) (hs : s.size < 4294967281) (h0 : 0 < s.size) (w : World) :
    Calls Try.prog 37 #[.string s] w fun e w' => e = .returned (readV (numF (lst s))) ∧ Below w.heap.size w w' := by
  have hlen := lst_len s
  have p1 := fun w => hasPrefix34 s ⟨#[48, 120]⟩ [48, 120] rfl w
  have p2 := fun w => hasPrefix34 s ⟨#[48, 88]⟩ [48, 88] rfl w
  have hh : headIs (fun c => decide (c.toNat = 48)) (lst s) = decide (s[0].toNat = 48) := by rw [lst_cons0 s h0]; rfl
  have room : ∀ a b : UInt8, [a, b].isPrefixOf (lst s) = true → 2 ≤ s.size := fun a b h => by
    have h2 := (List.isPrefixOf_iff_prefix.1 h).length_le
    rw [hlen] at h2
    exact h2
  have d10 : (digG 10 0 ((lst s).drop 0)).2 ≤ s.size := by have := digG_le 10 0 ((lst s).drop 0); rw [List.length_drop] at this; omega
  have hX16 : isX (lst s) = true → 2 ≤ s.size → numF (lst s) = if (2 + (digG 16 0 ((lst s).drop 2)).2) = 2 ∨ 4294967296 ≤ (digG 16 0 ((lst s).drop 2)).1 then none else numEnd (digG 16 0 ((lst s).drop 2)).1 (2 + (digG 16 0 ((lst s).drop 2)).2) (lst s) := fun h h2 => by
    unfold numF
    rw [if_pos h]
    simp only [numAt]
    congr 1
    apply propext
    simp
  have d16 : 2 ≤ s.size → 2 + (digG 16 0 ((lst s).drop 2)).2 ≤ s.size := fun h => by have := digG_le 16 0 ((lst s).drop 2); rw [List.length_drop] at this; omega
  have v16 := digG_bound 16 0 ((lst s).drop 2) (by omega)
  have v10 := digG_bound 10 0 ((lst s).drop 0) (by omega)
  cases h1 : [48, 120].isPrefixOf (lst s)
  · cases h2 : [48, 88].isPrefixOf (lst s)
    · rw [h1] at p1
      rw [h2] at p2
      have hx : isX (lst s) = false := by unfold isX; rw [h1, h2]; rfl
      have hc := digits53' s 0 10 _ _ (by omega) (by omega) (by omega) rfl rfl
      refine number37_A s _ _ (by omega) h0 (by omega) v10 p1 p2 hc _ ?_ w
      unfold numF
      rw [if_neg (by rw [hx]; simp)]
      simp only [numAt, hh]
      congr 1
      apply propext
      simp
    · rw [h1] at p1
      rw [h2] at p2
      have hr := room _ _ h2
      have hc := digits53' s 2 16 _ _ (by omega) (by omega) (by omega) rfl rfl
      exact number37_C s _ _ (by omega) h0 (d16 hr) v16 p1 p2 hc _ (hX16 (by unfold isX; rw [h2]; simp) hr) w
  · rw [h1] at p1
    have hr := room _ _ h1
    have hc := digits53' s 2 16 _ _ (by omega) (by omega) (by omega) rfl rfl
    exact number37_B s _ _ (by omega) h0 (d16 hr) v16 p1 hc _ (hX16 (by unfold isX; rw [h1]; rfl) hr) w

theorem numEnd_len {v n : Nat} {l : List UInt8} {t : Tok} {m : Nat} (h : numEnd v n l = some (t, m)) (hn : n ≤ l.length) : t.kind = 5 ∧ n ≤ m ∧ m ≤ l.length := by
  unfold numEnd at h
  by_cases hu : headIs isU (l.drop n) = true
  · have : n < l.length := by
      rcases Nat.lt_or_ge n l.length with h | h
      · exact h
      · rw [List.drop_eq_nil_of_le h] at hu; cases hu
    rw [if_pos hu] at h
    dsimp only at h
    split at h
    · cases h
    · simp at h; obtain ⟨rfl, rfl⟩ := h; exact ⟨rfl, by omega, by omega⟩
  · rw [if_neg hu] at h
    dsimp only at h
    split at h
    · cases h
    · simp at h; obtain ⟨rfl, rfl⟩ := h; exact ⟨rfl, by omega, by omega⟩
theorem numAt_len {b f : Nat} {l : List UInt8} {t : Tok} {m : Nat} (h : numAt b f l = some (t, m)) (hf : f ≤ l.length) : t.kind = 5 ∧ 1 ≤ m ∧ m ≤ l.length := by
  unfold numAt at h
  simp only at h
  split at h
  · cases h
  · rename_i hh
    have h1 := digG_le b 0 (l.drop f)
    rw [List.length_drop] at h1
    have := numEnd_len h (by omega)
    omega
/-- A token that is read: what kind, how long. -/
theorem readF_len {l : List UInt8} {t : Tok} {n : Nat} (h : readF l = some (t, n)) : 1 ≤ t.kind ∧ n ≤ l.length ∧ (t.kind = 1 ↔ l = []) ∧ (l ≠ [] → 1 ≤ n) := by
  match l, h with
  | [], h =>
    simp [readF] at h
    obtain ⟨rfl, rfl⟩ := h
    simp
  | c :: r, h =>
    have key : 2 ≤ t.kind ∧ 1 ≤ n ∧ n ≤ (c :: r).length := by
      simp only [readF] at h
      split at h
      · unfold numF at h
        split at h
        · rename_i hx
          have h2 : 2 ≤ (c :: r).length := by
            unfold isX at hx
            rw [Bool.or_eq_true] at hx
            rcases hx with h3 | h3
            · exact (List.isPrefixOf_iff_prefix.1 h3).length_le
            · exact (List.isPrefixOf_iff_prefix.1 h3).length_le
          have := numAt_len h h2
          omega
        · have := numAt_len h (Nat.zero_le _)
          omega
      · split at h
        · rename_i hn
          simp only [nameF, Option.some.injEq, Prod.mk.injEq] at h
          obtain ⟨rfl, rfl⟩ := h
          refine ⟨?_, ?_, (List.takeWhile_prefix nm).length_le⟩
          · show 2 ≤ (if _ then 3 else 2); split <;> omega
          · rw [tw_yes hn]; omega
        · split at h
          · unfold charF at h
            split at h
            · cases h
            · rename_i b m hu
              split at h
              · rename_i hp
                simp only [Option.some.injEq, Prod.mk.injEq] at h
                obtain ⟨rfl, rfl⟩ := h
                have h2 := (List.isPrefixOf_iff_prefix.1 hp).length_le
                rw [List.length_drop] at h2
                simp only [List.length_cons, List.length_nil] at h2 ⊢
                omega
              · cases h
          · split at h
            · unfold textF at h
              split at h
              · rename_i hp
                simp only [Option.some.injEq, Prod.mk.injEq] at h
                obtain ⟨rfl, rfl⟩ := h
                have h2 := (List.isPrefixOf_iff_prefix.1 hp).length_le
                rw [List.length_drop] at h2
                simp only [List.length_cons, List.length_nil] at h2 ⊢
                omega
              · cases h
            · unfold markF at h
              split at h
              · simp only [Option.some.injEq, Prod.mk.injEq] at h
                obtain ⟨rfl, rfl⟩ := h
                simp
                omega
              · split at h
                · simp only [Option.some.injEq, Prod.mk.injEq] at h
                  obtain ⟨rfl, rfl⟩ := h
                  simp
                  omega
                · split at h
                  · simp only [Option.some.injEq, Prod.mk.injEq] at h
                    obtain ⟨rfl, rfl⟩ := h
                    simp
                  · cases h
    refine ⟨by omega, key.2.2, ⟨fun e => by omega, fun e => by cases e⟩, fun _ => key.2.1⟩

theorem readV_form (X : Option (Tok × Nat)) : ∃ (k : Int) (t : ByteArray) (m : Int) (u : Bool) (n : Int), readV X = .tuple #[.agg #[.int .i64 k, .string t, .int .u32 m, .bool u, .int .i64 0, .int .i64 0], .int .i64 n] := by
  match X with
  | none => exact ⟨_, _, _, _, _, rfl⟩
  | some (t, n) => exact ⟨_, _, _, _, _, rfl⟩

set_option maxHeartbeats 4000000 in
theorem read22_nil (w : World) : Calls Try.prog 22 #[.string ⟨#[]⟩] w fun e w' => e = .returned (readV (readF [])) ∧ Below w.heap.size w w' := by
  go_enter Try.func22, Try.ntmps22
  go_wp2
  exact bodyPost_ret (v := readV (readF [])) (by simp [results, Try.results22, go_sem, readV, readF, tokV, strL]) rfl ⟨rfl, below_box _ _⟩

set_option maxHeartbeats 8000000 in
theorem read22_one (s : ByteArray) (h0 : 0 < s.size) (X : Option (Tok × Nat)) (f : FuncId)
    (hc : ∀ w, Calls Try.prog f #[.string s] w fun e w' => e = .returned (readV X) ∧ Below w.heap.size w w')
    (hf : (f = 37 ∧ dig s[0] = true) ∨ (f = 38 ∧ dig s[0] = false ∧ nm s[0] = true) ∨ (f = 39 ∧ dig s[0] = false ∧ nm s[0] = false ∧ s[0].toNat = 39) ∨ (f = 40 ∧ dig s[0] = false ∧ nm s[0] = false ∧ s[0].toNat = 34) ∨
      (f = 41 ∧ dig s[0] = false ∧ nm s[0] = false ∧ ¬ s[0].toNat = 39 ∧ ¬ s[0].toNat = 34)) (w : World) :
    Calls Try.prog 22 #[.string s] w fun e w' => e = .returned (readV X) ∧ Below w.heap.size w w' := by
  obtain ⟨k, t, m, u, n, hX⟩ := readV_form X
  rw [hX] at hc ⊢
  clear hX
  have hne := nonempty h0
  have h0' : (0 : Int) < s.size := by omega
  rcases hf with ⟨rfl, a1⟩ | ⟨rfl, a1, a2⟩ | ⟨rfl, a1, a2, a3⟩ | ⟨rfl, a1, a2, a3⟩ | ⟨rfl, a1, a2, a3, a4⟩
  · go_enter Try.func22, Try.ntmps22
    go_wp2_with (first
      | (go_at_call 25; refine (isDigit25 _ _).mono ?_; rintro e w1 ⟨rfl, rfl⟩)
      | (go_at_call 26; refine (isInName26 _ _).mono ?_; rintro e w1 ⟨rfl, rfl⟩)
      | (go_at_call 37; (with_reducible refine (hc _).mono ?_); rintro e w1 ⟨rfl, hb1⟩; obtain ⟨⟨k0, k1, k2, k3, k4, k5⟩, hz, hB, hlz⟩ := zkept hb1; have z0 := hz 0; have z1 := hz 1; have z2 := hz 2; have z3 := hz 3; have z4 := hz 4; have z5 := hz 5; clear hz))
    exact bodyPost_ret (v := .tuple #[.agg #[.int .i64 k, .string t, .int .u32 m, .bool u, .int .i64 0, .int .i64 0], .int .i64 n]) (by simp [results, Try.results22, go_sem, k0, k1, k2, k3, k4, k5]) rfl ⟨rfl, below_set6 hB _ _ _ _ _ _⟩
  · go_enter Try.func22, Try.ntmps22
    go_wp2_with (first
      | (go_at_call 25; refine (isDigit25 _ _).mono ?_; rintro e w1 ⟨rfl, rfl⟩)
      | (go_at_call 26; refine (isInName26 _ _).mono ?_; rintro e w1 ⟨rfl, rfl⟩)
      | (go_at_call 38; (with_reducible refine (hc _).mono ?_); rintro e w1 ⟨rfl, hb1⟩; obtain ⟨⟨k0, k1, k2, k3, k4, k5⟩, hz, hB, hlz⟩ := zkept hb1; have z0 := hz 0; have z1 := hz 1; have z2 := hz 2; have z3 := hz 3; have z4 := hz 4; have z5 := hz 5; clear hz))
    exact bodyPost_ret (v := .tuple #[.agg #[.int .i64 k, .string t, .int .u32 m, .bool u, .int .i64 0, .int .i64 0], .int .i64 n]) (by simp [results, Try.results22, go_sem, k0, k1, k2, k3, k4, k5]) rfl ⟨rfl, below_set6 hB _ _ _ _ _ _⟩
  · have a3' : ((s[0].toNat : Int) == 39) = true := by simp; omega
    clear a3
    go_enter Try.func22, Try.ntmps22
    go_wp2_with (first
      | (go_at_call 25; refine (isDigit25 _ _).mono ?_; rintro e w1 ⟨rfl, rfl⟩)
      | (go_at_call 26; refine (isInName26 _ _).mono ?_; rintro e w1 ⟨rfl, rfl⟩)
      | (go_at_call 39; (with_reducible refine (hc _).mono ?_); rintro e w1 ⟨rfl, hb1⟩; obtain ⟨⟨k0, k1, k2, k3, k4, k5⟩, hz, hB, hlz⟩ := zkept hb1; have z0 := hz 0; have z1 := hz 1; have z2 := hz 2; have z3 := hz 3; have z4 := hz 4; have z5 := hz 5; clear hz))
    exact bodyPost_ret (v := .tuple #[.agg #[.int .i64 k, .string t, .int .u32 m, .bool u, .int .i64 0, .int .i64 0], .int .i64 n]) (by simp [results, Try.results22, go_sem, k0, k1, k2, k3, k4, k5]) rfl ⟨rfl, below_set6 hB _ _ _ _ _ _⟩
  · have a3' : ((s[0].toNat : Int) == 39) = false := by simp; omega
    have a4' : ((s[0].toNat : Int) == 34) = true := by simp; omega
    clear a3
    go_enter Try.func22, Try.ntmps22
    go_wp2_with (first
      | (go_at_call 25; refine (isDigit25 _ _).mono ?_; rintro e w1 ⟨rfl, rfl⟩)
      | (go_at_call 26; refine (isInName26 _ _).mono ?_; rintro e w1 ⟨rfl, rfl⟩)
      | (go_at_call 40; (with_reducible refine (hc _).mono ?_); rintro e w1 ⟨rfl, hb1⟩; obtain ⟨⟨k0, k1, k2, k3, k4, k5⟩, hz, hB, hlz⟩ := zkept hb1; have z0 := hz 0; have z1 := hz 1; have z2 := hz 2; have z3 := hz 3; have z4 := hz 4; have z5 := hz 5; clear hz))
    exact bodyPost_ret (v := .tuple #[.agg #[.int .i64 k, .string t, .int .u32 m, .bool u, .int .i64 0, .int .i64 0], .int .i64 n]) (by simp [results, Try.results22, go_sem, k0, k1, k2, k3, k4, k5]) rfl ⟨rfl, below_set6 hB _ _ _ _ _ _⟩
  · have a3' : ((s[0].toNat : Int) == 39) = false := by simp; omega
    have a4' : ((s[0].toNat : Int) == 34) = false := by simp; omega
    clear a3 a4
    go_enter Try.func22, Try.ntmps22
    go_wp2_with (first
      | (go_at_call 25; refine (isDigit25 _ _).mono ?_; rintro e w1 ⟨rfl, rfl⟩)
      | (go_at_call 26; refine (isInName26 _ _).mono ?_; rintro e w1 ⟨rfl, rfl⟩)
      | (go_at_call 41; (with_reducible refine (hc _).mono ?_); rintro e w1 ⟨rfl, hb1⟩; obtain ⟨⟨k0, k1, k2, k3, k4, k5⟩, hz, hB, hlz⟩ := zkept hb1; have z0 := hz 0; have z1 := hz 1; have z2 := hz 2; have z3 := hz 3; have z4 := hz 4; have z5 := hz 5; clear hz))
    exact bodyPost_ret (v := .tuple #[.agg #[.int .i64 k, .string t, .int .u32 m, .bool u, .int .i64 0, .int .i64 0], .int .i64 n]) (by simp [results, Try.results22, go_sem, k0, k1, k2, k3, k4, k5]) rfl ⟨rfl, below_set6 hB _ _ _ _ _ _⟩

theorem read22 (s : ByteArray) (hs : s.size < 4294967281) (w : World) : Calls Try.prog 22 #[.string s] w fun e w' => e = .returned (readV (readF (lst s))) ∧ Below w.heap.size w w' := by
  by_cases h0 : 0 < s.size
  · have hl := lst_cons0 s h0
    have hr : readF (lst s) = if dig s[0] then numF (lst s) else if nm s[0] then nameF (lst s) else if s[0].toNat = 39 then charF (lst s) else if s[0].toNat = 34 then textF (lst s) else markF (lst s) := by
      rw [hl]; rfl
    cases hd : dig s[0]
    · cases hn : nm s[0]
      · by_cases h39 : s[0].toNat = 39
        · rw [hr, hd, hn, if_neg (by simp), if_neg (by simp), if_pos h39]
          exact read22_one s h0 _ 39 (fun w => character39 s (by omega) h0 h39 w) (.inr (.inr (.inl ⟨rfl, hd, hn, h39⟩))) w
        · by_cases h34 : s[0].toNat = 34
          · rw [hr, hd, hn, if_neg (by simp), if_neg (by simp), if_neg h39, if_pos h34]
            exact read22_one s h0 _ 40 (fun w => text40 s hs h0 h34 w) (.inr (.inr (.inr (.inl ⟨rfl, hd, hn, h34⟩)))) w
          · rw [hr, hd, hn, if_neg (by simp), if_neg (by simp), if_neg h39, if_neg h34]
            exact read22_one s h0 _ 41 (fun w => mark41 isMark56 s hs h0 w) (.inr (.inr (.inr (.inr ⟨rfl, hd, hn, h39, h34⟩)))) w
      · rw [hr, hd, hn, if_neg (by simp), if_pos rfl]
        exact read22_one s h0 _ 38 (fun w => name38 reserved15 s hs h0 hn w) (.inr (.inl ⟨rfl, hd, hn⟩)) w
    · rw [hr, hd, if_pos rfl]
      exact read22_one s h0 _ 37 (fun w => number37 s hs h0 w) (.inl ⟨rfl, hd⟩) w
  · obtain rfl := empty_eq h0
    exact read22_nil w
end Go.Proofs.Ytfnekmhhhjdeiaa
